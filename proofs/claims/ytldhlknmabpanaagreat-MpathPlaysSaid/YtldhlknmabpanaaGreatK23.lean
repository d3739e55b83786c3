/-
  Own text: what is told of what goes; Tick, walked. (Written by gen_mpv.py.)
-/
import Derived.Test.YtldhlknmabpanaaGreatK21
import Derived.Test.YtldhlknmabpanaaGreatK22
namespace Go.Proofs.YtldhlknmabpanaaGreat.Mp
open Go.RowKit
variable [Ghost]

omit [Ghost] in
theorem rd_keep2 {w w' : World} {d : Dg} (h : Rd w d) (e : ∀ g, d.da.map Addr.block = some g → g < w.heap.size → w'.heap[g]? = w.heap[g]?) (hs : w.heap.size ≤ w'.heap.size) : Rd w' d :=
  ⟨h.1, h.2.imp fun _ hl => ⟨bytes_keep hl.1 e hs, hl.2⟩⟩
/-- One of what goes, and what stands for it in a row at A. -/
structure El (w W : World) (A : Option Addr) (m o : On) : Prop where
  like : Like w W m o
  rd : Rd W o.d
  blk : ∀ g, o.d.da.map Addr.block = some g → w.heap.size ≤ g ∧ g < W.heap.size ∧ A.map Addr.block ≠ some g
omit [Ghost] in
theorem El.keep {w W W' : World} {A : Option Addr} {m o : On} (h : El w W A m o) (e : ∀ k, w.heap.size ≤ k → k < W.heap.size → A.map Addr.block ≠ some k → W'.heap[k]? = W.heap[k]?) (hs : W.heap.size ≤ W'.heap.size) : El w W' A m o :=
  ⟨⟨h.like.i, h.like.d, fun l hl => bytes_keep (h.like.b l hl) (fun g hg hl => e g (h.blk g hg).1 hl (h.blk g hg).2.2) hs⟩, rd_keep2 h.rd (fun g hg hl => e g (h.blk g hg).1 hl (h.blk g hg).2.2) hs,
    fun g hg => ⟨(h.blk g hg).1, Nat.lt_of_lt_of_le (h.blk g hg).2.1 hs, (h.blk g hg).2.2⟩⟩
omit [Ghost] in
theorem El.put {w W W2 : World} {A A' : Option Addr} {m o : On} (h : El w W A m o) (hm : Mo.MovedTo W (A.map Addr.block) W2 (A'.map Addr.block)) : El w W2 A' m o := by
  have h2 := h.keep (fun k _ h2 h3 => hm.grown.block k h2 (fun e => h3 e.symm)) hm.grown.size
  refine ⟨h2.like, h2.rd, fun g hg => ⟨(h2.blk g hg).1, (h2.blk g hg).2.1, fun e => ?_⟩⟩
  rcases hm.place with h1 | h1
  · exact (h2.blk g hg).2.2 (by rw [← h1]; exact e)
  · have := h1 g e
    have := (h.blk g hg).2.1
    omega
/-- What goes so far, in a row of the call's own. -/
structure Out (w : World) (l l' : List On) (A : Option Addr) (C : Nat) (W : World) : Prop where
  own : Mo.OwnT W w.heap.size (.slice A l.length C) l.length l'
  el : ∀ (i : Nat) (m : On), l[i]? = some m → ∃ o, l'[i]? = some o ∧ El w W A m o
omit [Ghost] in
theorem Out.len {w W : World} {l l' : List On} {A : Option Addr} {C : Nat} (h : Out w l l' A C W) : l'.length = l.length := h.own.length
omit [Ghost] in
theorem Out.likes {w W : World} {l l' : List On} {A : Option Addr} {C : Nat} (h : Out w l l' A C W) : Likes w W l l' := ⟨h.len, fun i m hm => by
  obtain ⟨o, h1, h2⟩ := h.el i m hm
  exact ⟨o, h1, h2.like, h2.rd, fun g hg => (h2.blk g hg).1⟩⟩
omit [Ghost] in
theorem Out.start (w W : World) : Out w [] [] none 0 W := ⟨Mo.OwnT.none _ _, fun i m hm => (by simp at hm)⟩
omit [Ghost] in
theorem Out.keep {w W W' : World} {l l' : List On} {A : Option Addr} {C : Nat} (h : Out w l l' A C W) (e : ∀ k, w.heap.size ≤ k → k < W.heap.size → W'.heap[k]? = W.heap[k]?) (hs : W.heap.size ≤ W'.heap.size) : Out w l l' A C W' :=
  ⟨h.own.keep (fun g hg => e g (h.own.lt g hg).1 (h.own.lt g hg).2), fun i m hm => by
    obtain ⟨o, h1, h2⟩ := h.el i m hm
    exact ⟨o, h1, h2.keep (fun k h3 h4 _ => e k h3 h4) hs⟩⟩
omit [Ghost] in
theorem Out.fr {w W W' : World} {S : Nat → Prop} {l l' : List On} {A : Option Addr} {C : Nat} (h : Out w l l' A C W) (f : Fr S W W') (hS : ∀ k, S k → k < w.heap.size) : Out w l l' A C W' :=
  h.keep (fun k h1 h2 => f.block k h2 (fun h3 => by have := hS k h3; omega)) f.size
omit [Ghost] in
/-- One more. -/
theorem Out.put {w W W2 : World} {l l' : List On} {A A' : Option Addr} {C C' : Nat} {m o : On} (h : Out w l l' A C W) (he : El w W A m o) (hm : Mo.MovedTo W (A.map Addr.block) W2 (A'.map Addr.block)) (ho : Mo.OwnT W2 w.heap.size (.slice A' (l.length + 1) C') (l.length + 1) (l' ++ [o])) : Out w (l ++ [m]) (l' ++ [o]) A' C' W2 := by
  refine ⟨by rw [List.length_append]; exact ho, fun i x hx => ?_⟩
  by_cases hi : i < l.length
  · rw [List.getElem?_append_left hi] at hx
    obtain ⟨o', h1, h2⟩ := h.el i x hx
    exact ⟨o', by rw [List.getElem?_append_left (by rw [h.len]; exact hi)]; exact h1, h2.put hm⟩
  · have hi2 : i = l.length := by
      have := (List.getElem?_eq_some_iff.1 hx).1
      simp at this
      omega
    subst hi2
    have hx2 : m = x := by simpa using hx
    subst hx2
    exact ⟨o, by rw [← h.len]; simp, he.put hm⟩
omit [Ghost] in
/-- What was sent stands for itself. -/
theorem El.sent {w W W1 : World} {A : Option Addr} {m o : On} (hl : Like W W1 m o) (hr : Rd W1 o.d) (hb : ∀ g, o.d.da.map Addr.block = some g → W.heap.size ≤ g ∧ g < W1.heap.size) (hA : ∀ g, A.map Addr.block = some g → g < W.heap.size) (hs : w.heap.size ≤ W.heap.size) (hy : ∀ l, Bytes w m.d.da m.d.dl l → Bytes W m.d.da m.d.dl l) : El w W1 A m o :=
  ⟨⟨hl.i, hl.d, fun l h => hl.b l (hy l h)⟩, hr, fun g hg => ⟨Nat.le_trans hs (hb g hg).1, (hb g hg).2, fun e => by have := hA g e; have := (hb g hg).1; omega⟩⟩
/-- What is told behind so many ways. -/
def Sd.ways (s : Sd) : Nat → List On × Sd
  | 0 => ([], s)
  | i + 1 => ((s.ways i).1 ++ ((s.ways i).2.way i).1, ((s.ways i).2.way i).2)
omit [Ghost] in
theorem tick_ways (s : Sd) : s.tick = s.later.ways 2 := by simp [Sd.tick, Sd.ways]
omit [Ghost] in
theorem ways_fit {s : Sd} {k : Nat} (h : s.fit k) : ∀ i, i ≤ 2 → (s.ways i).2.fit (k + 2 * i)
  | 0, _ => h
  | i + 1, hi => Sd.way_fit (ways_fit h i (by omega)) i (by omega)
omit [Ghost] in
theorem way_ses (s : Sd) (i : Nat) : (s.way i).2.ses = s.ses ∧ (s.way i).1.length ≤ 1 := by
  unfold Sd.way
  split
  · exact ⟨(sends_keep _ _ _).2.2.2, by rw [sends_length]; exact Nat.le_refl _⟩
  · exact ⟨rfl, by simp⟩
omit [Ghost] in
theorem ways_ses (s : Sd) : ∀ i, (s.ways i).2.ses = s.ses ∧ (s.ways i).1.length ≤ i
  | 0 => ⟨rfl, Nat.le_refl _⟩
  | i + 1 => by
    have h1 := ways_ses s i
    have h2 := way_ses (s.ways i).2 i
    refine ⟨h2.1.trans h1.1, ?_⟩
    show ((s.ways i).1 ++ ((s.ways i).2.way i).1).length ≤ i + 1
    rw [List.length_append]
    omega
omit [Ghost] in
theorem rd_keepD (ses : Nat) (w : World) : Rd w (keepD ses) := by
  refine ⟨⟨Nat.zero_le _, Nat.le_refl _, fun _ => rfl⟩, [], Bytes.nil w, ?_⟩
  unfold chk
  have hk : (keepD ses).kind = 7 := rfl
  have hp : (keepD ses).path = 0 := rfl
  rw [if_neg (by rw [hk]; omega), if_neg]
  refine not_not_intro ⟨by rw [hp]; omega, by rw [hp]; omega, ?_⟩
  have hb : bareB (keepD ses) = true := decide_eq_true ⟨rfl, rfl, rfl⟩
  exact .inr (.inr (.inr (.inr (.inr (.inl ⟨rfl, hb, rfl, rfl, rfl⟩)))))
omit [Ghost] in
theorem info_sent : (Tryz.prog.info? 87).map (fun i => (i.zero, i.size, i.bytes)) = some (some (.agg Mo.zc), 12, 96) := Mo.info_item
omit [Ghost] in
theorem news_one (W : World) (o : On) (j : Nat) (u : Value) (h : (Mo.icells [o])[j]? = some u) : (W.alloc (.cells (Mo.ocells o) 87)).cell? ((⟨W.heap.size, 0, none⟩ : Addr).add j) = some u := by
  have hb := Mo.one_new W o (0, 0) rfl
  rw [add_place, Nat.zero_add, Mo.TBlk.cell hb]
  exact h
omit [Ghost] in
/-- Behind the call that sends one: the row as it was, and the new one. -/
theorem tick_room {w W W1 : World} {p : Nat} {l l' : List On} {A : Option Addr} {C : Nat} {m o : On} (h : Out w l l' A C W) (hl : Like W W1 m o) (hr : Rd W1 o.d) (hb : ∀ g, o.d.da.map Addr.block = some g → W.heap.size ≤ g ∧ g < W1.heap.size) (hf : Fr (fun k => k = p) W W1) (hp : p < w.heap.size) (hs : w.heap.size ≤ W.heap.size) (hy : ∀ l, Bytes w m.d.da m.d.dl l → Bytes W m.d.da m.d.dl l) : Out w l l' A C (W1.alloc (.cells (Mo.ocells o) 87)) ∧ El w (W1.alloc (.cells (Mo.ocells o) 87)) A m o := by
  have hb2 : Below W1.heap.size W1 (W1.alloc (.cells (Mo.ocells o) 87)) := (Below.refl _ _).alloc (Nat.le_refl _) _
  have h1 := h.fr hf (fun k hk => by rw [hk]; exact hp)
  refine ⟨h1.keep (fun k _ hk => hb2.block k hk) hb2.size, El.keep (El.sent (w := w) hl hr hb (fun g hg => ?_) hs hy) (fun k _ hk _ => hb2.block k hk) hb2.size⟩
  exact (h.own.lt g (by rw [Mo.own_block]; exact hg)).2
omit [Ghost] in
theorem row_keep {W W5 : World} {A A' : Option Addr} {o : On} (hm : Mo.MovedTo (W.alloc (.cells (Mo.ocells o) 87)) (A.map Addr.block) W5 (A'.map Addr.block)) (k : Nat) (hlt : k < W.heap.size) (hne : A.map Addr.block ≠ some k) : W5.heap[k]? = W.heap[k]? := by
  have hb2 : Below W.heap.size W (W.alloc (.cells (Mo.ocells o) 87)) := (Below.refl _ _).alloc (Nat.le_refl _) _
  exact (hm.grown.block k (Nat.lt_of_lt_of_le hlt hb2.size) (fun e => hne e.symm)).trans (hb2.block k hlt)
omit [Ghost] in
theorem row_size {W W5 : World} {A A' : Option Addr} {o : On} (hm : Mo.MovedTo (W.alloc (.cells (Mo.ocells o) 87)) (A.map Addr.block) W5 (A'.map Addr.block)) : W.heap.size ≤ W5.heap.size := Nat.le_trans (by simp) hm.grown.size
omit [Ghost] in
theorem row_fr {w W W5 : World} {S : Nat → Prop} {A A' : Option Addr} {o : On} (hm : Mo.MovedTo (W.alloc (.cells (Mo.ocells o) 87)) (A.map Addr.block) W5 (A'.map Addr.block)) (hn : ∀ k, k < w.heap.size → A.map Addr.block ≠ some k) (hf : Fr S w W) : Fr S w W5 :=
  ⟨hm.grown.os.trans hf.os, hm.grown.tape.trans hf.tape, hm.grown.output.trans hf.output, Nat.le_trans hf.size (row_size hm), fun k hk hs => (row_keep hm k (Nat.lt_of_lt_of_le hk hf.size) (hn k hk)).trans (hf.block k hk hs)⟩
omit [Ghost] in
theorem Out.low {w W : World} {l l' : List On} {A : Option Addr} {C : Nat} (h : Out w l l' A C W) : ∀ k, k < w.heap.size → A.map Addr.block ≠ some k := fun k hk e => by
  have := (h.own.lt k (by rw [Mo.own_block]; exact e)).1
  omega
omit [Ghost] in
theorem Out.high {w W : World} {l l' : List On} {A : Option Addr} {C : Nat} (h : Out w l l' A C W) : ∀ k, A.map Addr.block = some k → k < W.heap.size := fun k e => (h.own.lt k (by rw [Mo.own_block]; exact e)).2
omit [Ghost] in
theorem row_ne {W W5 : World} {A A' : Option Addr} {o : On} (hm : Mo.MovedTo (W.alloc (.cells (Mo.ocells o) 87)) (A.map Addr.block) W5 (A'.map Addr.block)) (k : Nat) (hlt : k < W.heap.size) (hne : A.map Addr.block ≠ some k) : A'.map Addr.block ≠ some k := fun e => by
  rcases hm.place with h | h
  · exact hne (h ▸ e)
  · have := h k e
    simp only [World.size_alloc] at this
    omega
omit [Ghost] in
theorem tick_eq (s : Sd) (i : Nat) (h : ¬ ((s.wy i).fires = true ∧ s.bk.may 33 = true)) : s.way i = ([], s.ticked i) := if_neg h
omit [Ghost] in
theorem way_eq (s : Sd) (i : Nat) (h : (s.wy i).fires = true ∧ s.bk.may 33 = true) : s.way i = ([((s.ticked i).paid 33).one i (keepD s.ses)], ((s.ticked i).paid 33).sent i) := if_pos h
set_option maxRecDepth 100000 in
set_option maxHeartbeats 4000000 in
theorem tick_sb {w : World} {S : Nat → Prop} {p k : Nat} {s : Sd} (h : SB w S p s) (hf : s.fit k) (hk : k ≤ 1000000) :
    Calls Tryz.prog 35 #[.pointer (some ⟨p, 0, none⟩)] w fun e w' => Told2 w s.tick.1 e w' ∧ Hid (After SB w S p s.tick.2 w') := by
  obtain ⟨kb, qb, A, C, h⟩ := h
  have HLT := Lib.hid h.lt
  obtain ⟨n1, hn1⟩ : ∃ n1, n1 = (s.now + 1) % 4294967296 := ⟨_, rfl⟩
  have hnow : (0 : Int) ≤ (s.now : Int) := by omega
  have hwr : IntKind.u32.wrap ((s.now : Int) + 1) = (n1 : Int) := by rw [IntKind.wrap_u32, hn1]; omega
  obtain ⟨W1, hW1⟩ : ∃ W1, W1 = w.setCell ⟨p, 33, none⟩ (.int .u32 (n1 : Int)) := ⟨_, rfl⟩
  have HS1 : Hid (SBd W1 S p { s with now := n1 } kb qb A C ∧ Fr S w W1) := Lib.hid (by
    rw [hW1]
    exact h.tail (s' := { s with now := n1 }) 3 (by decide) (.int .u32 (n1 : Int)) rfl rfl rfl rfl)
  have c33 := h.blk.now
  have f33 := Lies.frozen h.blk.tl 33
  have CB := Lib.hid (Pa.tick12_any 1 (by decide) (by decide) kb k s.bk hf.bk W1 HS1.out.1.kblk)
  have HLA : Hid (s.later = { ({ s with now := n1 } : Sd) with bk := s.bk.tick 1 }) := Lib.hid (by rw [hn1]; rfl)
  have HFT := Lib.hid (Sd.later_fit hf)
  have HK := Lib.hid hk
  have HW1 := Lib.hid hW1
  rw [tick_ways s]
  generalize s.later = s0 at *
  clear h hf hk hW1 hn1
  go_enter Tryz.func35, Tryz.ntmps35
  go_upto_region 2 with fail
  rw [← HW1.out]
  clear c33 f33 hwr hnow
  have c31 := HS1.out.1.blk.bk
  go_upto_region 3 with (first
    | (go_at_call 68; (with_reducible refine (CB.out).mono ?_); rintro e W2 ⟨rfl, HK2, HF2⟩)
    | fail)
  have HB2 := Lib.hid (HS1.out.1.bucket HK2.out HF2.out)
  have HS2 : Hid (SBd W2 S p s0 kb qb A C ∧ Fr S w W2) := Lib.hid ⟨by rw [HLA.out]; exact HB2.out.1, HS1.out.2.then_ HB2.out.2 (fun k hk => .inl hk)⟩
  clear c31
  obtain ⟨sn, hsn⟩ : ∃ sn, sn = s0.ses := ⟨_, rfl⟩
  have HSN := Lib.hid hsn
  have c30 : W2.cell? ⟨p, 30, none⟩ = some (.int .u32 (sn : Int)) := by rw [hsn]; exact HS2.out.1.blk.ses
  clear hsn
  go_upto_region 4 with fail
  obtain ⟨W3, hW3⟩ : ∃ W3, W3 = W2.alloc (.cells #[.int .i64 7, .int .u32 (sn : Int), .int .u32 0, .int .i64 0, .int .u32 0, .int .u32 0, .int .u32 0, .int .i64 0, .int .i64 0, .int .i64 0, .slice none 0 0] 50) := ⟨_, rfl⟩
  have HL3 : Hid (Lies W3 W2.heap.size 0 (Mq.dcells (keepD sn))) := Lib.hid (by rw [hW3]; exact Lies.new W2 (Mq.dcells (keepD sn)) _ (Below.refl _ _))
  have hb3 : Below W2.heap.size W2 W3 := by rw [hW3]; exact (Below.refl _ _).alloc (Nat.le_refl _) _
  have HS3 : Hid (SBd W3 S p s0 kb qb A C ∧ Fr S w W3) := Lib.hid ⟨HS2.out.1.keep (fun k hk => hb3.block k (HS2.out.1.lt k hk)) hb3.size, HS2.out.2.then_ (Fr.of_below hb3) (fun k hk => .inl hk)⟩
  have HKX : Hid (w.heap.size ≤ W2.heap.size) := Lib.hid HS2.out.2.size
  rw [← hW3]
  generalize W2.heap.size = kx at *
  clear hW3 hb3 c30 HS1 HB2 HK2 HF2
  go_wp2
  go_loopw [4, 23] (fun s4 s23 wr => ∃ (i : Nat) (A1 : Option Addr) (C1 : Nat) (l' : List On), i ≤ 2 ∧ s4 = .slice A1 (s0.ways i).1.length C1 ∧ s23 = .int .i64 (i : Int) ∧ Hid (Out w (s0.ways i).1 l' A1 C1 wr) ∧ Hid (SBd wr S p (s0.ways i).2 kb qb A C) ∧ Hid (Fr S w wr) ∧ Hid (Lies wr kx 0 (Mq.dcells (keepD sn))) ∧ Hid (A1.map Addr.block ≠ some kx)) (fun _ s23 _ => 2 - (intOf s23).toNat)
  case atStart => exact ⟨0, none, 0, [], by decide, rfl, rfl, Lib.hid (Out.start _ _), Lib.hid HS3.out.1, Lib.hid HS3.out.2, HL3, Lib.hid (by simp)⟩
  case round =>
    obtain ⟨i, A1, C1, l', hi, rfl, rfl, HO, HS, HF, HL, HA⟩ := hrel
    clear HS3 HL3
    by_cases hlt : i < 2
    · have i0 : (0 : Int) ≤ (i : Int) := by omega
      have i1 : (i : Int) < 2 := by omega
      have HI := Lib.hid hlt
      have HNX : Hid (s0.ways (i + 1) = ((s0.ways i).1 ++ ((s0.ways i).2.way i).1, ((s0.ways i).2.way i).2)) := Lib.hid rfl
      have HFI := Lib.hid (ways_fit HFT.out i (Nat.le_of_lt hlt))
      have HSE := Lib.hid (ways_ses s0 i)
      generalize (s0.ways i).1 = l1 at *
      generalize (s0.ways i).2 = s1 at *
      have hse : s1.ses = sn := HSE.out.1.trans HSN.out.symm
      subst hse
      have HN2 : Hid (s1.now < 4294967296 ∧ l1.length ≤ 2) := Lib.hid ⟨HFI.out.now, by have := HSE.out.2; omega⟩
      have hpw : PLie wr p (i * 15) (s1.wy i) := by
        rcases (by omega : i = 0 ∨ i = 1) with rfl | rfl
        · exact HS.out.blk.w0
        · exact HS.out.blk.w1
      have CT := Lib.hid (tick_any p (i * 15) (s1.wy i) (HFI.out.wy i hlt).ok wr.drew hpw)
      have HW1 : Hid (∀ w1, PLie w1 p (i * 15) (s1.wy i).tick → Prt p (i * 15) 15 wr.drew w1 → SBd w1 S p (s1.ticked i) kb qb A C ∧ Fr S wr w1) := Lib.hid (fun w1 hp hr => HS.out.way (w' := w1) (q := (s1.wy i).tick) hlt (Nat.mul_comm i 15 ▸ hp) (Nat.mul_comm i 15 ▸ ⟨hr.os, hr.tape, hr.output, hr.size, hr.block, hr.part⟩))
      have HKP : Hid (∀ w1, Fr S wr w1 → Lies w1 kx 0 (Mq.dcells (keepD s1.ses))) := Lib.hid (fun w1 hf => HL.out.keep (hf.block kx HL.out.lt (fun hs => by have := HLT.out kx hs; have := HKX.out; omega)))
      have CSZ : Hid (∀ w1, Calls Tryz.prog 19 #[(keepD s1.ses).val] w1 fun e w' => e = .returned (.int .i64 33) ∧ Below w1.heap.size w1 w') := Lib.hid (fun w1 => (size_any (keepD s1.ses) (Nat.zero_le _) w1).mono fun e w' hh => ⟨by rw [hh.1]; rfl, hh.2⟩)
      have CBK : Hid (∀ w2, Pa.KBlk 107 w2 kb (s1.ticked i).bk → Calls Tryz.prog 22 #[.pointer (some ⟨kb, 0, none⟩), .int .i64 33] w2 fun e w' => e = .returned (.bool (s1.bk.may 33)) ∧ Hid (Pa.KBlk 107 w' kb (s1.bk.take 33)) ∧ Hid (Pa.Frm kb w2 w')) := Lib.hid (fun w2 hk2 => Pa.take_any 33 kb _ s1.bk HFI.out.bk (by have := HK.out; omega) w2 hk2)
      have hS8 : wr.drew.cell? ⟨p, 31, none⟩ = some (.pointer (some ⟨kb, 0, none⟩)) ∧ Lies wr.drew kx 0 (Mq.dcells (keepD s1.ses)) := ⟨HS.out.blk.bk, HL.out⟩
      obtain ⟨fz, hfz⟩ : ∃ fz, fz = (s1.wy i).fires := ⟨_, rfl⟩
      rw [← hfz] at CT
      have HFZ := Lib.hid hfz
      clear hi hlt hpw hfz
      go_upto_region 8 with fail
      cases fz with
      | false =>
        refine wp_region_held_drew (S := fun w' => w'.cell? ⟨p, 31, none⟩ = some (.pointer (some ⟨kb, 0, none⟩)) ∧ Lies w' kx 0 (Mq.dcells (keepD s1.ses))) (by kernel_rfl) hS8 (fun hHeld => ?_)
        clear hS8
        refine taken_at (i := 0) (v := .pointer (some ⟨p, 0, none⟩)) (some 26) rfl rfl (by kernel_rfl) (by kernel_rfl) (by kernel_rfl) (fun _ _ _ h => h) (Or.inl ⟨rfl, fun _ _ => rfl⟩) hHeld ?_
        try simp only [Act.put, List.setIfInBounds_toArray, List.set_cons_zero, List.set_cons_succ]
        refine taken_at (i := 1) (v := .int .i64 (i : Int)) (some 27) rfl rfl (by kernel_rfl) (by kernel_rfl) (by kernel_rfl) (fun _ _ _ h => h) (Or.inl ⟨rfl, fun _ _ => rfl⟩) hHeld ?_
        try simp only [Act.put, List.setIfInBounds_toArray, List.set_cons_zero, List.set_cons_succ]
        refine taken_at (i := 2) (v := .pointer (some ⟨p, 0, none⟩)) (some 28) rfl rfl (by kernel_rfl) (by kernel_rfl) (by kernel_rfl) (fun _ _ _ h => h) (Or.inl ⟨rfl, fun _ _ => rfl⟩) hHeld ?_
        try simp only [Act.put, List.setIfInBounds_toArray, List.set_cons_zero, List.set_cons_succ]
        refine taken_at (i := 3) (v := .pointer (some ⟨p, 0, none⟩)) (some 29) rfl rfl (by kernel_rfl) (by kernel_rfl) (by kernel_rfl) (fun _ _ _ h => h) (Or.inl ⟨rfl, fun w' hw => by have k0 := hw.1; go_simp⟩) hHeld ?_
        try simp only [Act.put, List.setIfInBounds_toArray, List.set_cons_zero, List.set_cons_succ]
        refine taken_at (i := 4) (v := .pointer (some ⟨p, i * 15, none⟩)) (some 30) rfl rfl (by kernel_rfl) (by kernel_rfl) (by kernel_rfl) (fun _ _ _ h => h) (Or.inl ⟨rfl, fun w' hw => by have k0 := hw.1; go_simp⟩) hHeld ?_
        try simp only [Act.put, List.setIfInBounds_toArray, List.set_cons_zero, List.set_cons_succ]
        refine wpAnyH_ready (rs := [5]) (by kernel_rfl) (by simp) ?_
        refine AllReadyH.cons rfl (fun K hK => ?_) AllReadyH.nil
        go_simp
        go_at_call 69
        refine (CT.out).mono ?_
        rintro e w1 ⟨rfl, HP1, HR1⟩
        have H1 := Lib.hid (HW1.out w1 HP1.out HR1.out)
        have HL1 := Lib.hid (HKP.out w1 H1.out.2)
        go_wp2_with fail
        refine hK.out _ _ ⟨H1.out.1.blk.bk, HL1.out⟩ (fun hHeld => ?_)
        clear hK K
        try simp only [Act.put, List.setIfInBounds_toArray, List.set_cons_zero, List.set_cons_succ]
        refine taken_at (i := 6) (v := .bool false) (some 32) rfl rfl (by kernel_rfl) (by kernel_rfl) (by kernel_rfl) (fun _ _ _ h => h) (Or.inl ⟨rfl, fun _ _ => rfl⟩) hHeld ?_
        try simp only [Act.put, List.setIfInBounds_toArray, List.set_cons_zero, List.set_cons_succ]
        refine taken_at (i := 7) (v := undef) (some 33) rfl rfl (by kernel_rfl) (by kernel_rfl) (by kernel_rfl) (fun _ _ _ h => h) (Or.inr ⟨rfl, rfl⟩) hHeld ?_
        try simp only [Act.put, List.setIfInBounds_toArray, List.set_cons_zero, List.set_cons_succ]
        refine taken_at (i := 8) (v := undef) (some 34) rfl rfl (by kernel_rfl) (by kernel_rfl) (by kernel_rfl) (fun _ _ _ h => h) (Or.inr ⟨rfl, rfl⟩) hHeld ?_
        try simp only [Act.put, List.setIfInBounds_toArray, List.set_cons_zero, List.set_cons_succ]
        refine taken_at (i := 9) (v := undef) (some 35) rfl rfl (by kernel_rfl) (by kernel_rfl) (by kernel_rfl) (fun _ _ _ h => h) (Or.inr ⟨rfl, rfl⟩) hHeld ?_
        try simp only [Act.put, List.setIfInBounds_toArray, List.set_cons_zero, List.set_cons_succ]
        refine taken_at (i := 10) (v := undef) (some 36) rfl rfl (by kernel_rfl) (by kernel_rfl) (by kernel_rfl) (fun _ _ _ h => h) (Or.inr ⟨rfl, rfl⟩) hHeld ?_
        try simp only [Act.put, List.setIfInBounds_toArray, List.set_cons_zero, List.set_cons_succ]
        refine taken_at (i := 11) (v := undef) (some 37) rfl rfl (by kernel_rfl) (by kernel_rfl) (by kernel_rfl) (fun _ _ _ h => h) (Or.inr ⟨rfl, rfl⟩) hHeld ?_
        try simp only [Act.put, List.setIfInBounds_toArray, List.set_cons_zero, List.set_cons_succ]
        refine taken_at (i := 12) (v := undef) (some 38) rfl rfl (by kernel_rfl) (by kernel_rfl) (by kernel_rfl) (fun _ _ _ h => h) (Or.inr ⟨rfl, rfl⟩) hHeld ?_
        try simp only [Act.put, List.setIfInBounds_toArray, List.set_cons_zero, List.set_cons_succ]
        refine taken_at (i := 13) (v := undef) (some 39) rfl rfl (by kernel_rfl) (by kernel_rfl) (by kernel_rfl) (fun _ _ _ h => h) (Or.inr ⟨rfl, rfl⟩) hHeld ?_
        try simp only [Act.put, List.setIfInBounds_toArray, List.set_cons_zero, List.set_cons_succ]
        refine taken_at (i := 14) (v := .bool false) (some 40) rfl rfl (by kernel_rfl) (by kernel_rfl) (by kernel_rfl) (fun _ _ _ h => h) (Or.inl ⟨rfl, fun _ _ => rfl⟩) hHeld ?_
        try simp only [Act.put, List.setIfInBounds_toArray]
        refine wpAnyH_done (by kernel_rfl) ?_ _
        clear hHeld
        have HE := Lib.hid (tick_eq s1 i (fun hh => by rw [← HFZ.out] at hh; cases hh.1))
        have HS9 := Lib.hid H1.out.1
        have HF9 := Lib.hid (HF.out.then_ H1.out.2 (fun k hk => .inl hk))
        have HO9 := Lib.hid (HO.out.fr H1.out.2 HLT.out)
        go_wp2
        go_roundw
        case rel => exact ⟨i + 1, A1, C1, l', HI.out, by rw [HNX.out, HE.out]; simp, by go_num, Lib.hid (by rw [HNX.out, HE.out]; simpa using HO9.out), Lib.hid (by rw [HNX.out, HE.out]; exact HS9.out), HF9, HL1, HA⟩
        case measure =>
          have := HI.out
          simp [intOf]
          omega
      | true =>
        refine wp_region_held_drew (S := fun w' => w'.cell? ⟨p, 31, none⟩ = some (.pointer (some ⟨kb, 0, none⟩)) ∧ Lies w' kx 0 (Mq.dcells (keepD s1.ses))) (by kernel_rfl) hS8 (fun hHeld => ?_)
        clear hS8
        obtain ⟨mb, hmb⟩ : ∃ mb, mb = s1.bk.may 33 := ⟨_, rfl⟩
        rw [← hmb] at CBK
        have HMB := Lib.hid hmb
        clear hmb
        cases mb with
        | false =>
          refine taken_at (i := 0) (v := .pointer (some ⟨p, 0, none⟩)) (some 26) rfl rfl (by kernel_rfl) (by kernel_rfl) (by kernel_rfl) (fun _ _ _ h => h) (Or.inl ⟨rfl, fun _ _ => rfl⟩) hHeld ?_
          try simp only [Act.put, List.setIfInBounds_toArray, List.set_cons_zero, List.set_cons_succ]
          refine taken_at (i := 1) (v := .int .i64 (i : Int)) (some 27) rfl rfl (by kernel_rfl) (by kernel_rfl) (by kernel_rfl) (fun _ _ _ h => h) (Or.inl ⟨rfl, fun _ _ => rfl⟩) hHeld ?_
          try simp only [Act.put, List.setIfInBounds_toArray, List.set_cons_zero, List.set_cons_succ]
          refine taken_at (i := 2) (v := .pointer (some ⟨p, 0, none⟩)) (some 28) rfl rfl (by kernel_rfl) (by kernel_rfl) (by kernel_rfl) (fun _ _ _ h => h) (Or.inl ⟨rfl, fun _ _ => rfl⟩) hHeld ?_
          try simp only [Act.put, List.setIfInBounds_toArray, List.set_cons_zero, List.set_cons_succ]
          refine taken_at (i := 3) (v := .pointer (some ⟨p, 0, none⟩)) (some 29) rfl rfl (by kernel_rfl) (by kernel_rfl) (by kernel_rfl) (fun _ _ _ h => h) (Or.inl ⟨rfl, fun w' hw => by have k0 := hw.1; go_simp⟩) hHeld ?_
          try simp only [Act.put, List.setIfInBounds_toArray, List.set_cons_zero, List.set_cons_succ]
          refine taken_at (i := 4) (v := .pointer (some ⟨p, i * 15, none⟩)) (some 30) rfl rfl (by kernel_rfl) (by kernel_rfl) (by kernel_rfl) (fun _ _ _ h => h) (Or.inl ⟨rfl, fun w' hw => by have k0 := hw.1; go_simp⟩) hHeld ?_
          try simp only [Act.put, List.setIfInBounds_toArray, List.set_cons_zero, List.set_cons_succ]
          refine wpAnyH_ready (rs := [5]) (by kernel_rfl) (by simp) ?_
          refine AllReadyH.cons rfl (fun K hK => ?_) AllReadyH.nil
          go_simp
          go_at_call 69
          refine (CT.out).mono ?_
          rintro e w1 ⟨rfl, HP1, HR1⟩
          have H1 := Lib.hid (HW1.out w1 HP1.out HR1.out)
          have HL1 := Lib.hid (HKP.out w1 H1.out.2)
          go_wp2_with fail
          refine hK.out _ _ ⟨H1.out.1.blk.bk, HL1.out⟩ (fun hHeld => ?_)
          clear hK K
          try simp only [Act.put, List.setIfInBounds_toArray, List.set_cons_zero, List.set_cons_succ]
          refine taken_at (i := 6) (v := .bool true) (some 32) rfl rfl (by kernel_rfl) (by kernel_rfl) (by kernel_rfl) (fun _ _ _ h => h) (Or.inl ⟨rfl, fun _ _ => rfl⟩) hHeld ?_
          try simp only [Act.put, List.setIfInBounds_toArray, List.set_cons_zero, List.set_cons_succ]
          refine taken_at (i := 7) (v := .pointer (some ⟨p, 0, none⟩)) (some 33) rfl rfl (by kernel_rfl) (by kernel_rfl) (by kernel_rfl) (fun _ _ _ h => h) (Or.inl ⟨rfl, fun _ _ => rfl⟩) hHeld ?_
          try simp only [Act.put, List.setIfInBounds_toArray, List.set_cons_zero, List.set_cons_succ]
          refine taken_at (i := 8) (v := .pointer (some ⟨p, 0, none⟩)) (some 34) rfl rfl (by kernel_rfl) (by kernel_rfl) (by kernel_rfl) (fun _ _ _ h => h) (Or.inl ⟨rfl, fun _ _ => rfl⟩) hHeld ?_
          try simp only [Act.put, List.setIfInBounds_toArray, List.set_cons_zero, List.set_cons_succ]
          refine taken_at (i := 9) (v := .pointer (some ⟨p, 31, none⟩)) (some 35) rfl rfl (by kernel_rfl) (by kernel_rfl) (by kernel_rfl) (fun _ _ _ h => h) (Or.inl ⟨rfl, fun w' hw => by have k0 := hw.1; go_simp⟩) hHeld ?_
          try simp only [Act.put, List.setIfInBounds_toArray, List.set_cons_zero, List.set_cons_succ]
          refine taken_at (i := 10) (v := .pointer (some ⟨kb, 0, none⟩)) (some 36) rfl rfl (by kernel_rfl) (by kernel_rfl) (by kernel_rfl) (fun _ _ _ h => h) (Or.inl ⟨rfl, fun w' hw => by have k0 := hw.1; go_simp⟩) hHeld ?_
          try simp only [Act.put, List.setIfInBounds_toArray, List.set_cons_zero, List.set_cons_succ]
          refine taken_at (i := 11) (v := (keepD s1.ses).val) (some 37) rfl rfl (by kernel_rfl) (by kernel_rfl) (by kernel_rfl) (fun _ _ _ h => h) (yields_loadAt 50 (.tmp 3) (.pointer (some ⟨kx, 0, none⟩)) rfl rfl rfl (fun w' hw => hw.2.loadAt 50 _ Tryz.underlying50 rfl (Mq.infoC _))) hHeld ?_
          try simp only [Act.put, List.setIfInBounds_toArray, List.set_cons_zero, List.set_cons_succ]
          refine wpAnyH_ready (rs := [12]) (by kernel_rfl) (by simp) ?_
          refine AllReadyH.cons rfl (fun K hK => ?_) AllReadyH.nil
          go_simp
          go_at_call 19
          refine (CSZ.out w1).mono ?_
          rintro e w2 ⟨rfl, hb2⟩
          have HB2 := Lib.hid hb2
          clear hb2
          have HS2 : Hid (SBd w2 S p (s1.ticked i) kb qb A C) := Lib.hid (H1.out.1.keep (fun k hk => HB2.out.block k (H1.out.1.lt k hk)) HB2.out.size)
          have HL2 : Hid (Lies w2 kx 0 (Mq.dcells (keepD s1.ses))) := Lib.hid (HL1.out.below HB2.out HL1.out.lt)
          have HF2 : Hid (Fr S wr w2) := Lib.hid (H1.out.2.then_ (Fr.of_below HB2.out) (fun k hk => .inl hk))
          go_wp2_with fail
          refine hK.out _ _ ⟨HS2.out.blk.bk, HL2.out⟩ (fun hHeld => ?_)
          clear hK K
          try simp only [Act.put, List.setIfInBounds_toArray, List.set_cons_zero, List.set_cons_succ]
          refine wpAnyH_ready (rs := [13]) (by kernel_rfl) (by simp) ?_
          refine AllReadyH.cons rfl (fun K hK => ?_) AllReadyH.nil
          go_simp
          go_at_call 22
          refine (CBK.out w2 HS2.out.kblk).mono ?_
          rintro e w3 ⟨rfl, HK3, HF3⟩
          have HB3 := Lib.hid (HS2.out.bucket HK3.out HF3.out)
          have HL3 : Hid (Lies w3 kx 0 (Mq.dcells (keepD s1.ses))) := Lib.hid (HL2.out.keep (HF3.out.block kx HL2.out.lt (fun e => by have := HLT.out kb HS2.out.inS.2.1; have := HKX.out; omega)))
          have HF03 : Hid (Fr S wr w3) := Lib.hid (HF2.out.then_ HB3.out.2 (fun k hk => .inl hk))
          go_wp2_with fail
          refine hK.out _ _ ⟨HB3.out.1.blk.bk, HL3.out⟩ (fun hHeld => ?_)
          clear hK K
          try simp only [Act.put, List.setIfInBounds_toArray, List.set_cons_zero, List.set_cons_succ]
          refine taken_at (i := 14) (v := .bool false) (some 40) rfl rfl (by kernel_rfl) (by kernel_rfl) (by kernel_rfl) (fun _ _ _ h => h) (Or.inl ⟨rfl, fun _ _ => rfl⟩) hHeld ?_
          try simp only [Act.put, List.setIfInBounds_toArray]
          refine wpAnyH_done (by kernel_rfl) ?_ _
          clear hHeld
          have HE := Lib.hid (tick_eq s1 i (fun hh => by rw [← HMB.out] at hh; cases hh.2))
          have HTK : Hid (s1.bk.take 33 = s1.bk) := Lib.hid (by unfold Bk.take; rw [← HMB.out]; rfl)
          have HS9 : Hid (SBd w3 S p (s1.ticked i) kb qb A C) := Lib.hid (by
            have := HB3.out.1
            rw [HTK.out] at this
            exact this)
          have HF9 := Lib.hid (HF.out.then_ HF03.out (fun k hk => .inl hk))
          have HO9 := Lib.hid (HO.out.fr HF03.out HLT.out)
          go_wp2
          go_roundw
          case rel => exact ⟨i + 1, A1, C1, l', HI.out, by rw [HNX.out, HE.out]; simp, by go_num, Lib.hid (by rw [HNX.out, HE.out]; simpa using HO9.out), Lib.hid (by rw [HNX.out, HE.out]; exact HS9.out), HF9, HL3, HA⟩
          case measure =>
            have := HI.out
            simp [intOf]
            omega
        | true =>
          refine taken_at (i := 0) (v := .pointer (some ⟨p, 0, none⟩)) (some 26) rfl rfl (by kernel_rfl) (by kernel_rfl) (by kernel_rfl) (fun _ _ _ h => h) (Or.inl ⟨rfl, fun _ _ => rfl⟩) hHeld ?_
          try simp only [Act.put, List.setIfInBounds_toArray, List.set_cons_zero, List.set_cons_succ]
          refine taken_at (i := 1) (v := .int .i64 (i : Int)) (some 27) rfl rfl (by kernel_rfl) (by kernel_rfl) (by kernel_rfl) (fun _ _ _ h => h) (Or.inl ⟨rfl, fun _ _ => rfl⟩) hHeld ?_
          try simp only [Act.put, List.setIfInBounds_toArray, List.set_cons_zero, List.set_cons_succ]
          refine taken_at (i := 2) (v := .pointer (some ⟨p, 0, none⟩)) (some 28) rfl rfl (by kernel_rfl) (by kernel_rfl) (by kernel_rfl) (fun _ _ _ h => h) (Or.inl ⟨rfl, fun _ _ => rfl⟩) hHeld ?_
          try simp only [Act.put, List.setIfInBounds_toArray, List.set_cons_zero, List.set_cons_succ]
          refine taken_at (i := 3) (v := .pointer (some ⟨p, 0, none⟩)) (some 29) rfl rfl (by kernel_rfl) (by kernel_rfl) (by kernel_rfl) (fun _ _ _ h => h) (Or.inl ⟨rfl, fun w' hw => by have k0 := hw.1; go_simp⟩) hHeld ?_
          try simp only [Act.put, List.setIfInBounds_toArray, List.set_cons_zero, List.set_cons_succ]
          refine taken_at (i := 4) (v := .pointer (some ⟨p, i * 15, none⟩)) (some 30) rfl rfl (by kernel_rfl) (by kernel_rfl) (by kernel_rfl) (fun _ _ _ h => h) (Or.inl ⟨rfl, fun w' hw => by have k0 := hw.1; go_simp⟩) hHeld ?_
          try simp only [Act.put, List.setIfInBounds_toArray, List.set_cons_zero, List.set_cons_succ]
          refine wpAnyH_ready (rs := [5]) (by kernel_rfl) (by simp) ?_
          refine AllReadyH.cons rfl (fun K hK => ?_) AllReadyH.nil
          go_simp
          go_at_call 69
          refine (CT.out).mono ?_
          rintro e w1 ⟨rfl, HP1, HR1⟩
          have H1 := Lib.hid (HW1.out w1 HP1.out HR1.out)
          have HL1 := Lib.hid (HKP.out w1 H1.out.2)
          go_wp2_with fail
          refine hK.out _ _ ⟨H1.out.1.blk.bk, HL1.out⟩ (fun hHeld => ?_)
          clear hK K
          try simp only [Act.put, List.setIfInBounds_toArray, List.set_cons_zero, List.set_cons_succ]
          refine taken_at (i := 6) (v := .bool true) (some 32) rfl rfl (by kernel_rfl) (by kernel_rfl) (by kernel_rfl) (fun _ _ _ h => h) (Or.inl ⟨rfl, fun _ _ => rfl⟩) hHeld ?_
          try simp only [Act.put, List.setIfInBounds_toArray, List.set_cons_zero, List.set_cons_succ]
          refine taken_at (i := 7) (v := .pointer (some ⟨p, 0, none⟩)) (some 33) rfl rfl (by kernel_rfl) (by kernel_rfl) (by kernel_rfl) (fun _ _ _ h => h) (Or.inl ⟨rfl, fun _ _ => rfl⟩) hHeld ?_
          try simp only [Act.put, List.setIfInBounds_toArray, List.set_cons_zero, List.set_cons_succ]
          refine taken_at (i := 8) (v := .pointer (some ⟨p, 0, none⟩)) (some 34) rfl rfl (by kernel_rfl) (by kernel_rfl) (by kernel_rfl) (fun _ _ _ h => h) (Or.inl ⟨rfl, fun _ _ => rfl⟩) hHeld ?_
          try simp only [Act.put, List.setIfInBounds_toArray, List.set_cons_zero, List.set_cons_succ]
          refine taken_at (i := 9) (v := .pointer (some ⟨p, 31, none⟩)) (some 35) rfl rfl (by kernel_rfl) (by kernel_rfl) (by kernel_rfl) (fun _ _ _ h => h) (Or.inl ⟨rfl, fun w' hw => by have k0 := hw.1; go_simp⟩) hHeld ?_
          try simp only [Act.put, List.setIfInBounds_toArray, List.set_cons_zero, List.set_cons_succ]
          refine taken_at (i := 10) (v := .pointer (some ⟨kb, 0, none⟩)) (some 36) rfl rfl (by kernel_rfl) (by kernel_rfl) (by kernel_rfl) (fun _ _ _ h => h) (Or.inl ⟨rfl, fun w' hw => by have k0 := hw.1; go_simp⟩) hHeld ?_
          try simp only [Act.put, List.setIfInBounds_toArray, List.set_cons_zero, List.set_cons_succ]
          refine taken_at (i := 11) (v := (keepD s1.ses).val) (some 37) rfl rfl (by kernel_rfl) (by kernel_rfl) (by kernel_rfl) (fun _ _ _ h => h) (yields_loadAt 50 (.tmp 3) (.pointer (some ⟨kx, 0, none⟩)) rfl rfl rfl (fun w' hw => hw.2.loadAt 50 _ Tryz.underlying50 rfl (Mq.infoC _))) hHeld ?_
          try simp only [Act.put, List.setIfInBounds_toArray, List.set_cons_zero, List.set_cons_succ]
          refine wpAnyH_ready (rs := [12]) (by kernel_rfl) (by simp) ?_
          refine AllReadyH.cons rfl (fun K hK => ?_) AllReadyH.nil
          go_simp
          go_at_call 19
          refine (CSZ.out w1).mono ?_
          rintro e w2 ⟨rfl, hb2⟩
          have HB2 := Lib.hid hb2
          clear hb2
          have HS2 : Hid (SBd w2 S p (s1.ticked i) kb qb A C) := Lib.hid (H1.out.1.keep (fun k hk => HB2.out.block k (H1.out.1.lt k hk)) HB2.out.size)
          have HL2 : Hid (Lies w2 kx 0 (Mq.dcells (keepD s1.ses))) := Lib.hid (HL1.out.below HB2.out HL1.out.lt)
          have HF2 : Hid (Fr S wr w2) := Lib.hid (H1.out.2.then_ (Fr.of_below HB2.out) (fun k hk => .inl hk))
          go_wp2_with fail
          refine hK.out _ _ ⟨HS2.out.blk.bk, HL2.out⟩ (fun hHeld => ?_)
          clear hK K
          try simp only [Act.put, List.setIfInBounds_toArray, List.set_cons_zero, List.set_cons_succ]
          refine wpAnyH_ready (rs := [13]) (by kernel_rfl) (by simp) ?_
          refine AllReadyH.cons rfl (fun K hK => ?_) AllReadyH.nil
          go_simp
          go_at_call 22
          refine (CBK.out w2 HS2.out.kblk).mono ?_
          rintro e w3 ⟨rfl, HK3, HF3⟩
          have HB3 := Lib.hid (HS2.out.bucket HK3.out HF3.out)
          have HL3 : Hid (Lies w3 kx 0 (Mq.dcells (keepD s1.ses))) := Lib.hid (HL2.out.keep (HF3.out.block kx HL2.out.lt (fun e => by have := HLT.out kb HS2.out.inS.2.1; have := HKX.out; omega)))
          have HF03 : Hid (Fr S wr w3) := Lib.hid (HF2.out.then_ HB3.out.2 (fun k hk => .inl hk))
          go_wp2_with fail
          refine hK.out _ _ ⟨HB3.out.1.blk.bk, HL3.out⟩ (fun hHeld => ?_)
          clear hK K
          try simp only [Act.put, List.setIfInBounds_toArray, List.set_cons_zero, List.set_cons_succ]
          refine taken_at (i := 14) (v := .bool true) (some 40) rfl rfl (by kernel_rfl) (by kernel_rfl) (by kernel_rfl) (fun _ _ _ h => h) (Or.inl ⟨rfl, fun _ _ => rfl⟩) hHeld ?_
          try simp only [Act.put, List.setIfInBounds_toArray]
          refine wpAnyH_done (by kernel_rfl) ?_ _
          clear hHeld
          have HE := Lib.hid (way_eq s1 i ⟨HFZ.out.symm, HMB.out.symm⟩)
          have HS9 : Hid (SBd w3 S p ((s1.ticked i).paid 33) kb qb A C) := Lib.hid HB3.out.1
          have HO9 := Lib.hid (HO.out.fr HF03.out HLT.out)
          have HF9 := Lib.hid (HF.out.then_ HF03.out (fun k hk => .inl hk))
          have HNXT : Hid ((((s1.ticked i).paid 33).wy i).nx < 4294967296) := Lib.hid ((Sd.paid_fit (Sd.ticked_fit HFI.out i) 33).wy i HI.out).nx
          generalize hs2 : (s1.ticked i).paid 33 = s2 at *
          have CSE := Lib.hid (send_sb (keepD s1.ses) HI.out HNXT.out HS9.out (rd_keepD _ _) (fun g hg => by cases hg))
          have HY9 : Hid (∀ l, Bytes w (s2.one i (keepD s1.ses)).d.da (s2.one i (keepD s1.ses)).d.dl l → Bytes w3 (s2.one i (keepD s1.ses)).d.da (s2.one i (keepD s1.ses)).d.dl l) := Lib.hid (fun l (hl : Bytes w none 0 l) => bytes_keep (w' := w3) hl (fun g hg => by cases hg) HF9.out.size)
          unfold Sends at CSE
          clear hs2
          go_wp2_with (first
            | (with_reducible refine wpList_load_lies rfl 50 (.tmp 3) rfl kx 0 rfl (Mq.dcells (keepD s1.ses)) HL3.out _ Tryz.underlying50 rfl (Mq.infoC (keepD s1.ses)) ?_)
            | (go_at_call 24; (with_reducible refine (CSE.out).mono ?_); rintro e w4 ⟨o, rfl, HO4, HS4, HF4⟩; have HX4 := Lib.hid (tick_room HO9.out HO4.out.1 HO4.out.2.1 HO4.out.2.2 HF4.out (HLT.out p HS9.out.inS.1) HF9.out.size HY9.out); have HBA : Hid (w.heap.size ≤ (w4.alloc (.cells (Mo.ocells o) 87)).heap.size) := Lib.hid (Nat.le_trans HF9.out.size (Nat.le_trans HF4.out.size (by simp))); have HN100 : Hid (l1.length + 1 ≤ 100000) := Lib.hid (by have := HN2.out; omega); have HNW := Lib.hid (news_one w4 o))
            | (with_reducible refine wpList_build_one rfl 51 87 (.tmp 45) rfl (.agg Mo.zc) 12 96 (Mo.ocells o) rfl Tryz.underlying51 info_sent rfl (by decide) (by decide) ?_)
            | ((with_reducible refine Mo.wpList_append_items (w := w4.alloc (.cells (Mo.ocells o) 87)) rfl (.tmp 41) (.tmp 46) rfl w.heap.size A1 l1.length C1 rfl l' HX4.out.1.own ⟨w4.heap.size, 0, none⟩ 1 1 rfl [o] rfl HNW.out HN100.out HBA.out ?_); intro A5 C5 w5 HO5 HM5)
            | fail)
          have HP5 := Lib.hid (HX4.out.1.put HX4.out.2 HM5.out HO5.out)
          have hlow := HO.out.low
          have hkl : kx < w4.heap.size := Nat.lt_of_lt_of_le HL3.out.lt HF4.out.size
          go_roundw
          case rel =>
            refine ⟨i + 1, A5, C5, l' ++ [o], HI.out, by rw [HNX.out, HE.out]; simp, by go_num, Lib.hid (by rw [HNX.out, HE.out]; exact HP5.out), Lib.hid (by rw [HNX.out, HE.out]; exact HS4.out.keep (fun k hk => row_keep HM5.out k (HS4.out.lt k hk) (hlow k (HLT.out k hk))) (row_size HM5.out)), Lib.hid (row_fr HM5.out hlow (HF9.out.then_ HF4.out (fun k hk => .inl (by rw [hk]; exact HS9.out.inS.1)))), Lib.hid ?_, Lib.hid (row_ne HM5.out kx hkl HA.out)⟩
            exact (HL3.out.keep (HF4.out.block kx HL3.out.lt (fun e => by have := HLT.out p HS9.out.inS.1; have := HKX.out; omega))).keep (row_keep HM5.out kx hkl HA.out)
          case measure =>
            have := HI.out
            simp [intOf]
            omega
    · obtain rfl : i = 2 := by omega
      clear hi hlt
      go_wp2
      go_ret
      exact ⟨⟨A1, C1, l', rfl, Lib.hid HO.out.own, Lib.hid HO.out.likes⟩, Lib.hid ⟨⟨S, ⟨kb, qb, A, C, HS.out⟩, fun _ hk => .inl hk⟩, HF.out⟩⟩
end Go.Proofs.YtldhlknmabpanaaGreat.Mp
