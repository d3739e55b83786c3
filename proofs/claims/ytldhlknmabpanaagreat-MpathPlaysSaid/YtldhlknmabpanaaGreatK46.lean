/-
  Own text: the document's Push, walked. (Written by gen_mrf.py.)
-/
import Derived.Test.YtldhlknmabpanaaGreatK35
import Derived.Test.YtldhlknmabpanaaGreatK45
namespace Go.Proofs.YtldhlknmabpanaaGreat.Mp
open Go.RowKit

theorem LR.cut {w : World} {base C : Nat} {A : Option Addr} {l : List Mq.It} (h : LR w base A C l) (m : Nat) (hm : m ≤ l.length) : LR w base A C (l.take m) := by
  have hlen : (l.take m).length = m := by rw [List.length_take]; omega
  have hfl := flat_length (fun x => (dic x).toList) 12 (fun x => by rw [Array.length_toList, dic_size])
  have hflat : (l.take m).flatMap (fun x => (dic x).toList) = (l.flatMap (fun x => (dic x).toList)).take (m * 12) := by
    have e : l.flatMap (fun x => (dic x).toList) = (l.take m).flatMap (fun x => (dic x).toList) ++ (l.drop m).flatMap (fun x => (dic x).toList) := by rw [← List.flatMap_append, List.take_append_drop]
    rw [e, List.take_left' (by rw [hfl, hlen])]
  unfold LR at *
  rw [hlen, hflat]
  refine ⟨by rw [List.length_take, hfl]; omega, ?_⟩
  rcases h.2 with ⟨e, h0⟩ | ⟨g, cap, cur, e, hb, hg, h1, h2, h3, h4⟩
  · injection e with e1 e2 e3
    subst e1 e3
    exact .inl ⟨by rw [show m = 0 by omega], by omega⟩
  · injection e with e1 e2 e3
    subst e1 e3
    refine .inr ⟨g, _, cur, rfl, hb, hg, by omega, h2, h3, ?_⟩
    rw [← h4, List.take_take, Nat.min_eq_left (by omega)]
/-- A list in the making. -/
structure PL (w1 w : World) (A : Option Addr) (C m : Nat) (l : List Mq.It) : Prop where
  own : LR w w1.heap.size A C l
  bel : Below w1.heap.size w1 w
  len : m = l.length
  few : m + 1 ≤ 100000
theorem PL.room {w1 w : World} {A : Option Addr} {C m : Nat} {l : List Mq.It} (h : PL w1 w A C m l) (x : Mq.It) :
    (w.alloc (.cells (dic x) 130)).ownsRow w1.heap.size 130 12 (.slice A m C) m (l.flatMap (fun x => (dic x).toList)) ∧ Lies (w.alloc (.cells (dic x) 130)) w.heap.size 0 (dic x) ∧ w1.heap.size ≤ (w.alloc (.cells (dic x) 130)).heap.size := by
  have hb : Below w.heap.size w (w.alloc (.cells (dic x) 130)) := (Below.refl _ _).alloc (Nat.le_refl _) _
  have hl := h.len
  subst hl
  exact ⟨ownsRow_below h.own hb (Nat.le_refl _), Lies.new w _ _ (Below.refl _ _), Nat.le_trans h.bel.size hb.size⟩
theorem PL.more {w1 w w9 : World} {A A2 : Option Addr} {C C2 m : Nat} {l : List Mq.It} {x : Mq.It} (h : PL w1 w A C m l) (hf : m + 2 ≤ 100000) (ha : w9.ownsRow w1.heap.size 130 12 (.slice A2 (m + 1) C2) (m + 1) (l.flatMap (fun x => (dic x).toList) ++ (dic x).toList)) (hg : Grew w1.heap.size 130 (w.alloc (.cells (dic x) 130)) w9) : PL w1 w9 A2 C2 (m + 1) (l ++ [x]) :=
  ⟨LR.more h.len ha, (h.bel.trans (((Below.refl _ _).alloc (Nat.le_refl _) _).mono h.bel.size)).trans hg.bel, by rw [List.length_append, h.len]; rfl, hf⟩
/-- Where a new one goes. -/
theorem pos_le (r : Int) (l : List Mq.It) : Mq.pos r l ≤ l.length := by unfold Mq.pos; exact List.IsPrefix.length_le (List.takeWhile_prefix _)
theorem pos_lt (r : Int) : ∀ (l : List Mq.It) (j : Nat) (x : Mq.It), l[j]? = some x → j < Mq.pos r l → x.rank ≤ r
  | [], j, x, h, _ => by simp at h
  | y :: l, 0, x, h, hj => by
    obtain rfl : y = x := by simpa using h
    unfold Mq.pos at hj
    rw [List.takeWhile_cons] at hj
    split at hj
    · rename_i h1
      simpa using h1
    · simp at hj
  | y :: l, j + 1, x, h, hj => by
    unfold Mq.pos at hj
    rw [List.takeWhile_cons] at hj
    split at hj
    · exact pos_lt r l j x (by simpa using h) (by unfold Mq.pos; simpa using hj)
    · simp at hj
theorem pos_at (r : Int) : ∀ (l : List Mq.It) (x : Mq.It), l[Mq.pos r l]? = some x → r < x.rank
  | [], x, h => by simp at h
  | y :: l, x, h => by
    unfold Mq.pos at h
    rw [List.takeWhile_cons] at h
    split at h
    · exact pos_at r l x (by unfold Mq.pos; simpa using h)
    · rename_i h1
      obtain rfl : y = x := by simpa using h
      simpa using h1
/-- The new list, behind j of the old one's. -/
def gro (r : Int) (X : Mq.It) (l : List Mq.It) (j : Nat) : List Mq.It := if j ≤ Mq.pos r l then l.take j else l.take (Mq.pos r l) ++ X :: (l.drop (Mq.pos r l)).take (j - Mq.pos r l)
theorem gro_lo {r : Int} {X x : Mq.It} {l : List Mq.It} {j : Nat} (hx : l[j]? = some x) (h : j < Mq.pos r l) : gro r X l (j + 1) = gro r X l j ++ [x] := by
  unfold gro
  rw [if_pos (by omega), if_pos (by omega), take_more hx]
theorem gro_at {r : Int} {X x : Mq.It} {l : List Mq.It} {j : Nat} (hx : l[j]? = some x) (h : j = Mq.pos r l) : gro r X l (j + 1) = gro r X l j ++ [X] ++ [x] := by
  unfold gro
  rw [if_neg (by omega), if_pos (by omega), ← h, show j + 1 - j = 1 by omega, List.append_assoc]
  congr 1
  have : (l.drop j)[0]? = some x := by rw [List.getElem?_drop]; simpa using hx
  rw [take_more this]
  simp
theorem gro_hi {r : Int} {X x : Mq.It} {l : List Mq.It} {j : Nat} (hx : l[j]? = some x) (h : Mq.pos r l < j) : gro r X l (j + 1) = gro r X l j ++ [x] := by
  unfold gro
  rw [if_neg (by omega), if_neg (by omega), List.append_assoc]
  congr 1
  have : (l.drop (Mq.pos r l))[j - Mq.pos r l]? = some x := by rw [List.getElem?_drop, show Mq.pos r l + (j - Mq.pos r l) = j by omega]; exact hx
  rw [show j + 1 - Mq.pos r l = (j - Mq.pos r l) + 1 by omega, take_more this]
  rfl
theorem gro_end {r : Int} {X : Mq.It} {l : List Mq.It} (h : Mq.pos r l < l.length) : gro r X l l.length = l.take (Mq.pos r l) ++ X :: l.drop (Mq.pos r l) := by
  unfold gro
  rw [if_neg (by omega)]
  congr 2
  rw [List.take_of_length_le (by rw [List.length_drop]; omega)]
theorem gro_fin {r : Int} {X : Mq.It} {l : List Mq.It} (h : ¬ Mq.pos r l < l.length) : gro r X l l.length ++ [X] = l.take (Mq.pos r l) ++ X :: l.drop (Mq.pos r l) := by
  have := pos_le r l
  unfold gro
  rw [if_pos (by omega), show Mq.pos r l = l.length by omega]
  simp
theorem gro_length {r : Int} {X : Mq.It} {l : List Mq.It} {j : Nat} (hj : j ≤ l.length) : (gro r X l j).length = if j ≤ Mq.pos r l then j else j + 1 := by
  have := pos_le r l
  unfold gro
  split
  · rw [List.length_take]; omega
  · rw [List.length_append, List.length_cons, List.length_take, List.length_take, List.length_drop]; omega
/-- Three boxes: the sender's, the datagram's, the answer's. -/
theorem three_d (w : World) (t : Sd) (A : Option Addr) (C : Nat) (d : Dg) {W : World} (hW : W = ((w.alloc (.cells (dsa t A C) 40)).alloc (.cells (Mq.dcells d) 50)).alloc (.cells (dsa Sdz none 0) 40)) :
    Below w.heap.size w W ∧ DB W w.heap.size t A C ∧ Lies W (w.heap.size + 1) 0 (Mq.dcells d) ∧ Lies W (w.heap.size + 2) 0 (dsa Sdz none 0) ∧ W.heap.size = w.heap.size + 3 := by
  subst hW
  refine ⟨(((Below.refl _ _).alloc (Nat.le_refl _) _).alloc (by simp) _).alloc (by simp; omega) _, db_new w t A C _ (((Below.refl _ _).alloc (Nat.le_refl _) _).alloc (by simp) _), ?_, ?_, by simp⟩
  · have := Lies.new (w.alloc (.cells (dsa t A C) 40)) (Mq.dcells d) 50 ((Below.refl _ _).alloc (Nat.le_refl _) (.cells (dsa Sdz none 0) 40))
    simpa using this
  · have := Lies.new ((w.alloc (.cells (dsa t A C) 40)).alloc (.cells (Mq.dcells d) 50)) (dsa Sdz none 0) 40 (Below.refl _ _)
    simpa using this
set_option maxRecDepth 100000 in
set_option maxHeartbeats 4000000 in
theorem rpush15_any (r : Int) (d : Dg) (lb : List Int) (t : Sd) (A : Option Addr) (C : Nat) (w : World) (hl : DL w A t.q.l) (hn : t.q.l.length ≤ t.q.room) (hn0 : 1 ≤ t.q.room) (hn2 : t.q.room ≤ 256) (hdr : t.dr ≤ 1000000000) (hby : Bytes w d.da d.dl lb) :
    Calls Tryz.prog 32 #[.agg (dsa t A C), .int .i64 r, d.val] w fun e w' => ∃ A' C' t', e = .returned (.tuple #[.agg (dsa t' A' C'), .int .i64 (chk (t.own d d.da d.dc) lb)]) ∧ Hid (Below w.heap.size w w') ∧ Hid ((chk (t.own d d.da d.dc) lb ≠ 0 ∧ t' = t ∧ A' = A ∧ C' = C) ∨ (chk (t.own d d.da d.dc) lb = 0 ∧ t' = t.push r (t.own d d.da d.dc) ∧ LR w' w.heap.size A' C' t'.q.l)) := by
  obtain ⟨W, hW⟩ : ∃ W, W = ((w.alloc (.cells (dsa t A C) 40)).alloc (.cells (Mq.dcells d) 50)).alloc (.cells (dsa Sdz none 0) 40) := ⟨_, rfl⟩
  obtain ⟨hb, hd, hg, hz, hs⟩ := three_d w t A C d hW
  obtain ⟨d2, hd2⟩ : ∃ d2, d2 = t.own d d.da d.dc := ⟨_, rfl⟩
  have HD2 := Lib.hid hd2
  obtain ⟨W1, hW1⟩ : ∃ W1, W1 = (W.setCell ⟨w.heap.size + 1, 1, none⟩ (.int .u32 (t.ses : Int))).setCell ⟨w.heap.size + 1, 3, none⟩ (.int .i64 0) := ⟨_, rfl⟩
  have HB1 : Hid (Below w.heap.size w W1) := Lib.hid (by rw [hW1]; exact (hb.setCell (p := ⟨w.heap.size + 1, 1, none⟩) (Nat.le_succ _) _).setCell (p := ⟨w.heap.size + 1, 3, none⟩) (Nat.le_succ _) _)
  have HS1 : Hid (W1.heap.size = w.heap.size + 3) := Lib.hid (by rw [hW1]; simpa using hs)
  have HD1 : Hid (DB W1 w.heap.size t A C) := Lib.hid (by
    rw [hW1]
    exact hd.keep (by rw [Below.heap_setCell _ ⟨w.heap.size + 1, 3, none⟩ _ w.heap.size (by show w.heap.size ≠ w.heap.size + 1; omega), Below.heap_setCell _ ⟨w.heap.size + 1, 1, none⟩ _ w.heap.size (by show w.heap.size ≠ w.heap.size + 1; omega)]))
  have HG1 : Hid (Lies W1 (w.heap.size + 1) 0 (Mq.dcells d2)) := Lib.hid (by rw [hW1, hd2]; exact (hg.set 1 (.int .u32 (t.ses : Int))).set 3 (.int .i64 0))
  obtain ⟨V, hV⟩ : ∃ V, V = dsa t A C := ⟨_, rfl⟩
  have HVV := Lib.hid hV
  obtain ⟨Z, hZ⟩ : ∃ Z, Z = dsa Sdz none 0 := ⟨_, rfl⟩
  have HLZ : Hid (Lies W1 (w.heap.size + 2) 0 Z) := Lib.hid (by rw [hW1, hZ]; exact (hz.other (by show w.heap.size + 2 ≠ w.heap.size + 1; omega) _).other (by show w.heap.size + 2 ≠ w.heap.size + 1; omega) _)
  have HZS : Hid (∀ t A C, (dsa t A C).size = Z.size) := Lib.hid (fun t A C => by rw [hZ, dsa_size, dsa_size])
  have c163 : W.cell? ⟨w.heap.size, 163, none⟩ = some (.int .u32 (t.ses : Int)) := hd.cells.2.2.2.1
  have g1 : W.cell? ⟨w.heap.size + 1, 1, none⟩ = some (.int .u32 d.ses) := hg.cell 1 (by decide : 1 < 11)
  have g3 : W.cell? ⟨w.heap.size + 1, 3, none⟩ = some (.int .i64 d.path) := hg.cell 3 (by decide : 3 < 11)
  have e1 := hg.frozen 1
  have e3 := hg.frozen 3
  have HLW : Hid (∀ w', Below w.heap.size w w' → DL w' A t.q.l) := Lib.hid (fun w' h => hl.below h (Nat.le_refl _))
  have CK := Lib.hid (rcheck_any d2 lb W1 (by rw [hd2]; exact hby.below HB1.out (Nat.le_refl _)))
  obtain ⟨ck, hck⟩ : ∃ ck, ck = chk d2 lb := ⟨_, rfl⟩
  rw [← hck] at CK
  rw [← hd2, ← hck]
  have HCK := Lib.hid hck
  have zz := zeroD
  have ND : Hid (d2.val = .agg (Mq.dcells d2)) := Lib.hid rfl
  rw [← hZ] at zz hW
  rw [← hV] at hW ⊢
  have HN := Lib.hid hn
  have HN0 := Lib.hid hn0
  have HN2 := Lib.hid hn2
  have HDR := Lib.hid hdr
  clear hb hd hg hz hs hd2 hl hby hck hZ hV hn hn0 hn2 hdr
  generalize t.ses = ses at *
  go_enter Tryz.func32, Tryz.ntmps32
  go_upto_region 1 with fail
  rw [← hW]
  clear hW zz
  go_upto_region 2 with fail
  rw [← hW1]
  clear hW1 c163 g1 g3 e1 e3
  go_upto_region 3 with (first
    | (with_reducible refine wpList_load_lies rfl 50 (.tmp 5) rfl (w.heap.size + 1) 0 rfl (Mq.dcells d2) HG1.out _ Tryz.underlying50 rfl (Mq.infoC d2) ?_)
    | (go_at_call 62; (with_reducible refine (CK.out).mono ?_); rintro e w2 ⟨rfl, hb2⟩; have HB2 := Lib.hid hb2; clear hb2)
    | fail)
  have HL2 := Lib.hid (HLW.out w2 (HB1.out.trans (HB2.out.mono HB1.out.size)))
  have HD2B := Lib.hid (HD1.out.below HB2.out HD1.out.lt)
  have HG2 := Lib.hid (HG1.out.below HB2.out HG1.out.lt)
  have HZ2 : Hid (Lies w2 (w.heap.size + 1 + 1) 0 Z) := Lib.hid (HLZ.out.below HB2.out HLZ.out.lt)
  have HBW2 : Hid (Below w.heap.size w w2) := Lib.hid (HB1.out.trans (HB2.out.mono HB1.out.size))
  have HS2 : Hid (w.heap.size + 3 ≤ w2.heap.size) := Lib.hid (by have := HB2.out.size; have := HS1.out; omega)
  clear HD1 HG1 HLZ HB1 HB2 HS1 HLW CK
  by_cases h0 : ck = 0
  · subst h0
    have HCN := Lib.hid (rfl : (0 : Int) = 0)
    obtain ⟨l, hle⟩ : ∃ l, l = t.q.l := ⟨_, rfl⟩
    have HLE := Lib.hid hle
    obtain ⟨n, hnn⟩ : ∃ n, n = l.length := ⟨_, rfl⟩
    have HN3 := Lib.hid hnn
    obtain ⟨X, hX⟩ : ∃ X : Mq.It, X = ⟨r, (t.q.pushed : Int), d2⟩ := ⟨_, rfl⟩
    have HX := Lib.hid hX
    have HXD : Hid (dic X = #[.int .i64 r, .int .i64 d2.kind, .int .u32 d2.ses, .int .u32 d2.seq, .int .i64 d2.path, .int .u32 d2.tick, .int .u32 d2.A, .int .u32 d2.B, .int .i64 d2.K, .int .i64 d2.M, .int .i64 d2.ix, .slice d2.da d2.dl d2.dc]) := Lib.hid (by rw [hX])
    obtain ⟨p, hp⟩ : ∃ p, p = Mq.pos r l := ⟨_, rfl⟩
    have HP := Lib.hid hp
    obtain ⟨G, hG⟩ : ∃ G : Nat → List Mq.It, G = gro r X l := ⟨_, rfl⟩
    have HG := Lib.hid hG
    have HG0 : Hid (G 0 = []) := Lib.hid (by rw [hG]; unfold gro; rw [if_pos (Nat.zero_le _)]; rfl)
    have hn2 : n ≤ 256 := by rw [hnn, hle]; have := HN.out; have := HN2.out; omega
    have HNB := Lib.hid hn2
    have HGL : Hid (∀ j, j ≤ n → (G j).length = if j ≤ p then j else j + 1) := Lib.hid (fun j hj => by rw [hG, hp]; exact gro_length (by omega))
    have HPN : Hid (p ≤ n) := Lib.hid (by rw [hp, hnn]; exact pos_le _ _)
    rw [← hle] at HL2
    have HC : Hid (w2.cell? ⟨w.heap.size, 161, none⟩ = some (.slice A n C)) := Lib.hid (by have := HD2B.out.cells.2.1; rw [← hle, ← hnn] at this; exact this)
    have HI := Lib.hid infoI
    have HZI : Hid (zI.cells.size = 12) := Lib.hid rfl
    have HX1 : Hid ((#[.int .i64 r, .int .i64 d2.kind, .int .u32 d2.ses, .int .u32 d2.seq, .int .i64 d2.path, .int .u32 d2.tick, .int .u32 d2.A, .int .u32 d2.B, .int .i64 d2.K, .int .i64 d2.M, .int .i64 d2.ix, .slice d2.da d2.dl d2.dc] : Array Value).all (·.oneCell') = true) := Lib.hid (by simp [Value.oneCell'])
    clear hle hnn hX hp hG
    go_upto_region 8 with fail
    go_wp2
    go_loopw [9, 10, 11] (fun s9 s10 s11 wr => ∃ (j m : Nat) (A1 : Option Addr) (C1 : Nat) (dn : Bool), j ≤ n ∧ s11 = .int .i64 (j : Int) ∧ s10 = .bool dn ∧ Hid (dn = decide (p < j)) ∧ s9 = .slice A1 m C1 ∧ Hid (PL w2 wr A1 C1 m (G j))) (fun _ _ s11 _ => n - (intOf s11).toNat)
    case atStart => exact ⟨0, 0, none, 0, false, Nat.zero_le _, rfl, rfl, Lib.hid (by simp), rfl, Lib.hid ⟨by rw [HG0.out]; exact LR.start _ _, Below.refl _ _, by rw [HG0.out]; rfl, by omega⟩⟩
    case round =>
      obtain ⟨j, m, A1, C1, dn, hj, rfl, rfl, HDN, rfl, HPL⟩ := hrel
      have c161 : wr.cell? ⟨w.heap.size, 161, none⟩ = some (.slice A n C) := (HPL.out.bel.cell (p := ⟨w.heap.size, 161, none⟩) HD2B.out.lt).trans HC.out
      have j0 : (0 : Int) ≤ (j : Int) := by omega
      have jb : (j : Int) ≤ 256 := by omega
      by_cases hlt : j < n
      · have j1 : (j : Int) < n := by omega
        have HJ : Hid (j + 1 ≤ n) := Lib.hid hlt
        have HDM : Hid (n - (j + 1) < n - j) := Lib.hid (by omega)
        obtain ⟨g, off, rfl, hg, hit⟩ := HL2.out.item (j := j) (by have := HN3.out; omega)
        obtain ⟨x, hx⟩ : ∃ x, x = l[j]'(by have := HN3.out; omega) := ⟨_, rfl⟩
        rw [← hx] at hit
        have HXJ : Hid (l[j]? = some x) := Lib.hid (by rw [hx]; exact List.getElem?_eq_getElem _)
        have hitr := hit.below HPL.out.bel hg
        have ck : wr.cell? ⟨g, off + j * 12, none⟩ = some (.int .i64 x.rank) := hitr.cell 0 (by decide : 0 < 12)
        have HIT : Hid (∀ w', Below wr.heap.size wr w' → Lies w' g (off + j * 12) (dic x)) := Lib.hid (fun w' h => hitr.below h hitr.lt)
        have HGW : Hid (g < w2.heap.size) := Lib.hid hg
        have HFM : Hid (m + 3 ≤ 100000) := Lib.hid (by
          have h1 := HPL.out.len
          rw [HGL.out j hj] at h1
          split at h1 <;> omega)
        have HIW : Hid (∀ w', Below w2.heap.size w2 w' → Lies w' g (off + j * 12) (dic x)) := Lib.hid (fun w' h => hit.below h hg)
        have HNJ := Lib.hid hlt
        clear hx hg hit hitr hlt hj
        rcases Nat.lt_trichotomy j p with hjp | hjp | hjp
        · obtain rfl : dn = false := by rw [HDN.out]; exact decide_eq_false (by omega)
          have hrk : (r < x.rank) = False := eq_false (by have := pos_lt r l j x HXJ.out (by rw [← HP.out]; exact hjp); omega)
          have HGN : Hid (G (j + 1) = G j ++ [x]) := Lib.hid (by rw [HG.out]; exact gro_lo HXJ.out (by rw [← HP.out]; exact hjp))
          have HDE : Hid (false = decide (p < j + 1)) := Lib.hid (decide_eq_false (by omega)).symm
          clear hjp
          go_wp2_with (first
            | (with_reducible refine wpList_load_lies rfl 130 (.tmp 51) rfl g (off + j * 12) rfl (dic x) (HIT.out _ (Below.refl _ _)) _ Tryz.underlying130 rfl (infoI15 x) ?_)
            | (with_reducible refine wpList_build_one rfl 38 130 (.tmp 52) rfl zI 12 96 (dic x) rfl Tryz.underlying38 HI.out (dic_size x) (by decide) (by decide) ?_; obtain ⟨ho8, hl8, hs8⟩ := HPL.out.room x; have HO8 := Lib.hid ho8; have HL8 := Lib.hid hl8; have HS8 := Lib.hid hs8; clear ho8 hl8 hs8)
            | (at_builtin; (with_reducible refine wpList_append_el rfl (.tmp 47) (.tmp 53) 38 130 rfl zI 12 96 Tryz.underlying38 HI.out HZI.out (by decide) (by decide) w2.heap.size A1 m C1 rfl _ HO8.out wr.heap.size rfl (dic x) (dic_size x) HL8.out (dic_one x) HPL.out.few HS8.out ?_); intro A2 C2 w9 HA9 HG9)
            | fail)
          go_roundw
          case rel => exact ⟨j + 1, m + 1, A2, C2, false, HJ.out, by go_num, rfl, HDE, rfl, Lib.hid (by rw [HGN.out]; exact HPL.out.more (by have := HFM.out; omega) HA9.out HG9.out)⟩
          case measure => have := HDM.out; simp [intOf] <;> omega
        · obtain rfl : dn = false := by rw [HDN.out]; exact decide_eq_false (by omega)
          have hrk : (r < x.rank) = True := eq_true (pos_at r l x (by rw [← HP.out, ← hjp]; exact HXJ.out))
          have HGN : Hid (G (j + 1) = G j ++ [X] ++ [x]) := Lib.hid (by rw [HG.out]; exact gro_at HXJ.out (by rw [← HP.out]; exact hjp))
          have HDE : Hid (true = decide (p < j + 1)) := Lib.hid (decide_eq_true (by omega)).symm
          have HGJ := Lib.hid (HG2.out.below HPL.out.bel HG2.out.lt)
          clear hjp
          go_upto_region 12 with (first
            | (with_reducible refine wpList_load_lies rfl 50 (.tmp 5) rfl (w.heap.size + 1) 0 rfl (Mq.dcells d2) HGJ.out _ Tryz.underlying50 rfl (Mq.infoC d2) ?_)
            | (with_reducible refine wpList_build_one rfl 38 130 (.tmp 44) rfl zI 12 96 #[.int .i64 r, .int .i64 d2.kind, .int .u32 d2.ses, .int .u32 d2.seq, .int .i64 d2.path, .int .u32 d2.tick, .int .u32 d2.A, .int .u32 d2.B, .int .i64 d2.K, .int .i64 d2.M, .int .i64 d2.ix, .slice d2.da d2.dl d2.dc] rfl Tryz.underlying38 HI.out rfl (by decide) (by decide) ?_; obtain ⟨ho8, hl8, hs8⟩ := HPL.out.room X; rw [HXD.out] at ho8 hl8 hs8; have HO8 := Lib.hid ho8; have HL8 := Lib.hid hl8; have HS8 := Lib.hid hs8; clear ho8 hl8 hs8)
            | (at_builtin; (with_reducible refine wpList_append_el rfl (.tmp 41) (.tmp 45) 38 130 rfl zI 12 96 Tryz.underlying38 HI.out HZI.out (by decide) (by decide) w2.heap.size A1 m C1 rfl _ HO8.out wr.heap.size rfl #[.int .i64 r, .int .i64 d2.kind, .int .u32 d2.ses, .int .u32 d2.seq, .int .i64 d2.path, .int .u32 d2.tick, .int .u32 d2.A, .int .u32 d2.B, .int .i64 d2.K, .int .i64 d2.M, .int .i64 d2.ix, .slice d2.da d2.dl d2.dc] rfl HL8.out HX1.out HPL.out.few HS8.out ?_); intro A3 C3 w8 HA8 HG8)
            | fail)
          rw [← HXD.out] at HA8 HG8
          have HPL8 := Lib.hid (HPL.out.more (by have := HFM.out; omega) HA8.out HG8.out)
          have HITX := Lib.hid (HIW.out w8 HPL8.out.bel)
          have c161 : w8.cell? ⟨w.heap.size, 161, none⟩ = some (.slice (some ⟨g, off, none⟩) n C) := (HPL8.out.bel.cell (p := ⟨w.heap.size, 161, none⟩) HD2B.out.lt).trans HC.out
          clear HA8 HG8 HO8 HL8 HS8 HGJ ck
          go_wp2_with (first
            | (with_reducible refine wpList_load_lies rfl 130 (.tmp 51) rfl g (off + j * 12) rfl (dic x) HITX.out _ Tryz.underlying130 rfl (infoI15 x) ?_)
            | (with_reducible refine wpList_build_one rfl 38 130 (.tmp 52) rfl zI 12 96 (dic x) rfl Tryz.underlying38 HI.out (dic_size x) (by decide) (by decide) ?_; obtain ⟨ho8, hl8, hs8⟩ := HPL8.out.room x; have HO8 := Lib.hid ho8; have HL8 := Lib.hid hl8; have HS8 := Lib.hid hs8; clear ho8 hl8 hs8)
            | (at_builtin; (with_reducible refine wpList_append_el rfl (.tmp 47) (.tmp 53) 38 130 rfl zI 12 96 Tryz.underlying38 HI.out HZI.out (by decide) (by decide) w2.heap.size A3 (m + 1) C3 rfl _ HO8.out w8.heap.size rfl (dic x) (dic_size x) HL8.out (dic_one x) HPL8.out.few HS8.out ?_); intro A2 C2 w9 HA9 HG9)
            | fail)
          go_roundw
          case rel => exact ⟨j + 1, m + 1 + 1, A2, C2, true, HJ.out, by go_num, rfl, HDE, rfl, Lib.hid (by rw [HGN.out]; exact HPL8.out.more (by have := HFM.out; omega) HA9.out HG9.out)⟩
          case measure => have := HDM.out; simp [intOf] <;> omega
        · obtain rfl : dn = true := by rw [HDN.out]; exact decide_eq_true hjp
          have HGN : Hid (G (j + 1) = G j ++ [x]) := Lib.hid (by rw [HG.out]; exact gro_hi HXJ.out (by rw [← HP.out]; exact hjp))
          have HDE : Hid (true = decide (p < j + 1)) := Lib.hid (decide_eq_true (by omega)).symm
          clear hjp
          go_wp2_with (first
            | (with_reducible refine wpList_load_lies rfl 130 (.tmp 51) rfl g (off + j * 12) rfl (dic x) (HIT.out _ (Below.refl _ _)) _ Tryz.underlying130 rfl (infoI15 x) ?_)
            | (with_reducible refine wpList_build_one rfl 38 130 (.tmp 52) rfl zI 12 96 (dic x) rfl Tryz.underlying38 HI.out (dic_size x) (by decide) (by decide) ?_; obtain ⟨ho8, hl8, hs8⟩ := HPL.out.room x; have HO8 := Lib.hid ho8; have HL8 := Lib.hid hl8; have HS8 := Lib.hid hs8; clear ho8 hl8 hs8)
            | (at_builtin; (with_reducible refine wpList_append_el rfl (.tmp 47) (.tmp 53) 38 130 rfl zI 12 96 Tryz.underlying38 HI.out HZI.out (by decide) (by decide) w2.heap.size A1 m C1 rfl _ HO8.out wr.heap.size rfl (dic x) (dic_size x) HL8.out (dic_one x) HPL.out.few HS8.out ?_); intro A2 C2 w9 HA9 HG9)
            | fail)
          go_roundw
          case rel => exact ⟨j + 1, m + 1, A2, C2, true, HJ.out, by go_num, rfl, HDE, rfl, Lib.hid (by rw [HGN.out]; exact HPL.out.more (by have := HFM.out; omega) HA9.out HG9.out)⟩
          case measure => have := HDM.out; simp [intOf] <;> omega
      · obtain rfl : j = n := by omega
        obtain ⟨L, hL⟩ : ∃ L, L = l.take p ++ X :: l.drop p := ⟨_, rfl⟩
        have HLD := Lib.hid hL
        by_cases hpn : p < j
        · obtain rfl : dn = true := by rw [HDN.out]; exact decide_eq_true hpn
          have HPLX : Hid (PL w2 wr A1 C1 m L) := Lib.hid (by rw [hL, HP.out]; have := gro_end (X := X) (show Mq.pos r l < l.length by rw [← HP.out, ← HN3.out]; exact hpn); rw [← this, ← HN3.out, ← HG.out]; exact HPL.out)
          clear hL hpn hlt hj HPL
          obtain ⟨n, hn⟩ : ∃ n, n = j := ⟨_, rfl⟩
          subst hn
          have HLL : Hid (L.length = n + 1) := Lib.hid (by rw [HLD.out, List.length_append, List.length_cons, List.length_take, List.length_drop]; have := HN3.out; have := HPN.out; omega)
          obtain ⟨g1, rfl⟩ : ∃ g1, A1 = some ⟨g1, 0, none⟩ := by
            rcases HPLX.out.own.2 with ⟨_, h0⟩ | ⟨g1, _, _, e, _⟩
            · have := HLL.out; omega
            · injection e with e _ _; exact ⟨g1, e⟩
          have hm : m = n + 1 := HPLX.out.len.trans HLL.out
          have hdx : DB wr w.heap.size t A C := HD2B.out.below HPLX.out.bel HD2B.out.lt
          have c162 : wr.cell? ⟨w.heap.size, 162, none⟩ = some (.int .i64 (t.q.room : Int)) := hdx.cells.2.2.1
          have f161 := hdx.frozen 161
          have f165 := hdx.frozen 165
          have c165 : wr.cell? ⟨w.heap.size, 165, none⟩ = some (.int .i64 (t.dr : Int)) := hdx.cells.2.2.2.2.2.1
          have c161 : wr.cell? ⟨w.heap.size, 161, none⟩ = some (.slice A n C) := (HPLX.out.bel.cell (p := ⟨w.heap.size, 161, none⟩) HD2B.out.lt).trans HC.out
          have hwd : IntKind.i64.wrap ((t.dr : Int) + 1) = (t.dr : Int) + 1 := by rw [IntKind.wrap_i64]; have := HDR.out; omega
          have HDX := Lib.hid hdx
          have HZX : Hid (Lies wr (w.heap.size + 1 + 1) 0 Z) := Lib.hid (HZ2.out.below HPLX.out.bel HZ2.out.lt)
          have HBX : Hid (Below w.heap.size w wr) := Lib.hid (HBW2.out.trans (HPLX.out.bel.mono HBW2.out.size))
          have HOX := Lib.hid HPLX.out.own
          have hrm := HN.out
          rw [← HLE.out, ← HN3.out] at hrm
          have hr2 := HN2.out
          have hr1 := HN0.out
          rw [hm]
          by_cases hfull : n < t.q.room
          · obtain ⟨t1, ht1⟩ : ∃ t1 : Sd, t1 = { t with q := ⟨t.q.room, t.q.pushed + 1, L⟩ } := ⟨_, rfl⟩
            have HPU : Hid (t1 = t.push r d2) := Lib.hid (by rw [ht1, HLD.out]; unfold Sd.push Mq.Qn.push; rw [← HLE.out, if_pos (by rw [← HN3.out]; exact hfull), if_pos (by rw [← HN3.out]; exact hfull), Mq.Qn.ins, ← HLE.out, ← HP.out, ← HX.out])
            have HQ1 : Hid (t1.q.l = L) := Lib.hid (by rw [ht1])
            have HDW : Hid (DB (wr.setCell ⟨w.heap.size, 161, none⟩ (.slice (some ⟨g1, 0, none⟩) (n + 1) C1)) w.heap.size t1 (some ⟨g1, 0, none⟩) C1) := Lib.hid (by
              rw [ht1]
              exact hdx.tail 5 (by decide) (.slice (some ⟨g1, 0, none⟩) (n + 1) C1) (by rw [← HLL.out]; rfl) rfl)
            have hg1 : ((n : Int) + 1 > (t.q.room : Int)) = False := eq_false (by omega)
            have hg2 : ((t.q.room : Int) < (n : Int) + 1) = False := eq_false (by omega)
            have HLX : Hid (LR wr w2.heap.size (some ⟨g1, 0, none⟩) C1 L) := HOX
            clear ht1 hdx hm hfull hrm hr2 hr1 HOX
            go_upto_region 20 with fail
            obtain ⟨W5, hW5⟩ : ∃ W5, W5 = wr.setCell ⟨w.heap.size, 161, none⟩ (.slice (some ⟨g1, 0, none⟩) (n + 1) C1) := ⟨_, rfl⟩
            rw [← hW5]
            have HBE : Hid (Below w.heap.size w W5) := Lib.hid (by rw [hW5]; exact HBX.out.setCell (p := ⟨w.heap.size, 161, none⟩) (Nat.le_refl _) _)
            have HLE5 : Hid (LR W5 w.heap.size (some ⟨g1, 0, none⟩) C1 L) := Lib.hid (by
              rw [hW5]
              exact ownsRow_low (ownsRow_keep HLX.out (fun g _ hg _ => by
                have h1 := (HLX.out.lt g hg).1
                have h2 := HS2.out
                rw [Below.heap_setCell _ ⟨w.heap.size, 161, none⟩ _ g (by show g ≠ w.heap.size; omega)])) HBW2.out.size)
            have HZE : Hid (Lies W5 (w.heap.size + 1 + 1) 0 Z) := Lib.hid (by rw [hW5]; exact (HZX.out.other (by show w.heap.size + 1 + 1 ≠ w.heap.size; omega) _))
            have HAP : Hid (∀ g, ((some ⟨g1, 0, none⟩) : Option Addr).map Addr.block = some g → w.heap.size + 3 ≤ g) := Lib.hid (fun g hg => by have h1 := (LR.low HLX.out g hg).1; have := HS2.out; omega)
            obtain ⟨R, hR⟩ : ∃ R, R = dsa t1 (some ⟨g1, 0, none⟩) C1 := ⟨_, rfl⟩
            have HRR := Lib.hid hR
            have HWE : Hid (Lies W5 w.heap.size 0 R) := Lib.hid (by rw [hR, hW5]; exact HDW.out.whole)
            have IR : Hid ((Tryz.prog.info? 40).map (·.size) = some R.size) := Lib.hid (by rw [hR]; exact infoD15 _ _ _)
            have SR : Hid (R.size = Z.size) := Lib.hid (by rw [hR]; exact HZS.out _ _ _)
            have OR : Hid (R.all (·.oneCell') = true) := Lib.hid (by rw [hR]; exact dsa_one _ _ _)
            clear hR hW5
            go_wp2_with (first
              | (with_reducible refine wpList_load_lies rfl 40 (.tmp 3) rfl w.heap.size 0 rfl R HWE.out _ Tryz.underlying40 rfl IR.out ?_)
              | ((with_reducible refine wpList_store_lies rfl 40 (.tmp 6) (.tmp 78) rfl (w.heap.size + 1 + 1) 0 rfl R rfl Z HZE.out SR.out IR.out OR.out ?_); intro w7 N1 N2 N3)
              | fail)
            refine bodyPost_ret (v := .tuple #[.agg R, .int .i64 0]) (Mq.results_cell1 (p := 6) (u := 7) rfl _ w7 (w.heap.size + 1 + 1) _ _ rfl rfl (Lies.loadVar N1.out 40 _ Tryz.underlying40 rfl IR.out)) rfl ?_
            refine ⟨(some ⟨g1, 0, none⟩), C1, t1, by rw [HRR.out], Lib.hid (N2.out.bel HBE.out HBE.out.size (by omega)), Lib.hid ⟨HPU.out, ?_⟩⟩
            rw [HQ1.out]
            exact ownsRow_keep HLE5.out (fun g _ hg _ => N2.out.block g (HLE5.out.lt g hg).2 (fun e => by
              have := HAP.out g hg
              omega))
          · have hreq : n = t.q.room := by omega
            obtain ⟨t1, ht1⟩ : ∃ t1 : Sd, t1 = { t with q := ⟨t.q.room, t.q.pushed + 1, L.dropLast⟩, dr := t.dr + 1 } := ⟨_, rfl⟩
            have HPU : Hid (t1 = t.push r d2) := Lib.hid (by rw [ht1, HLD.out]; unfold Sd.push Mq.Qn.push; rw [← HLE.out, if_neg (by rw [← HN3.out]; exact hfull), if_neg (by rw [← HN3.out]; exact hfull), Mq.Qn.ins, ← HLE.out, ← HP.out, ← HX.out])
            have HQ1 : Hid (t1.q.l = L.take t.q.room) := Lib.hid (by rw [ht1]; show L.dropLast = _; rw [List.dropLast_eq_take, HLL.out, hreq, Nat.add_sub_cancel])
            have HLK : Hid ((L.take t.q.room).length = t.q.room) := Lib.hid (by rw [List.length_take, HLL.out]; omega)
            have HDW : Hid (DB ((wr.setCell ⟨w.heap.size, 165, none⟩ (.int .i64 ((t.dr : Int) + 1))).setCell ⟨w.heap.size, 161, none⟩ (.slice (some ⟨g1, 0, none⟩) t.q.room C1)) w.heap.size t1 (some ⟨g1, 0, none⟩) C1) := Lib.hid ((hdx.tail (t' := { t with dr := t.dr + 1 }) 9 (by decide) (.int .i64 ((t.dr : Int) + 1)) rfl rfl).tail 5 (by decide) (.slice (some ⟨g1, 0, none⟩) t.q.room C1) (by
              have e : t1.q.l.length = t.q.room := by rw [HQ1.out]; exact HLK.out
              rw [← e, ht1]; rfl) (by rw [ht1]))
            have hg2 : ((t.q.room : Int) < (n : Int) + 1) = True := eq_true (by omega)
            have hi1 : (t.q.room : Int) ≤ (n : Int) + 1 := by omega
            have hi0 : (0 : Int) ≤ (t.q.room : Int) := by omega
            have hcap : (n : Int) + 1 ≤ (C1 : Int) := by
              rcases HOX.out.2 with ⟨e, _⟩ | ⟨_, _, _, e, _, _, h, _⟩
              · cases e
              · injection e with _ _ e3
                rw [HLL.out] at h
                omega
            have hi2 : (t.q.room : Int) ≤ (C1 : Int) := by omega
            have HLX : Hid (LR wr w2.heap.size (some ⟨g1, 0, none⟩) C1 (L.take t.q.room)) := Lib.hid (HOX.out.cut t.q.room (by rw [HLL.out]; omega))
            clear ht1 hdx hm hfull hrm hr2 hr1 HOX hreq
            generalize t.q.room = rm at *
            go_upto_region 20 with fail
            obtain ⟨W5, hW5⟩ : ∃ W5, W5 = (wr.setCell ⟨w.heap.size, 165, none⟩ (.int .i64 ((t.dr : Int) + 1))).setCell ⟨w.heap.size, 161, none⟩ (.slice (some ⟨g1, 0, none⟩) rm C1) := ⟨_, rfl⟩
            rw [← hW5]
            have HBE : Hid (Below w.heap.size w W5) := Lib.hid (by rw [hW5]; exact (HBX.out.setCell (p := ⟨w.heap.size, 165, none⟩) (Nat.le_refl _) _).setCell (p := ⟨w.heap.size, 161, none⟩) (Nat.le_refl _) _)
            have HLE5 : Hid (LR W5 w.heap.size (some ⟨g1, 0, none⟩) C1 (L.take rm)) := Lib.hid (by
              rw [hW5]
              exact ownsRow_low (ownsRow_keep HLX.out (fun g _ hg _ => by
                have h1 := (HLX.out.lt g hg).1
                have h2 := HS2.out
                rw [Below.heap_setCell _ ⟨w.heap.size, 161, none⟩ _ g (by show g ≠ w.heap.size; omega), Below.heap_setCell _ ⟨w.heap.size, 165, none⟩ _ g (by show g ≠ w.heap.size; omega)])) HBW2.out.size)
            have HZE : Hid (Lies W5 (w.heap.size + 1 + 1) 0 Z) := Lib.hid (by rw [hW5]; exact ((HZX.out.other (by show w.heap.size + 1 + 1 ≠ w.heap.size; omega) _).other (by show w.heap.size + 1 + 1 ≠ w.heap.size; omega) _))
            have HAP : Hid (∀ g, ((some ⟨g1, 0, none⟩) : Option Addr).map Addr.block = some g → w.heap.size + 3 ≤ g) := Lib.hid (fun g hg => by have h1 := (LR.low HLX.out g hg).1; have := HS2.out; omega)
            obtain ⟨R, hR⟩ : ∃ R, R = dsa t1 (some ⟨g1, 0, none⟩) C1 := ⟨_, rfl⟩
            have HRR := Lib.hid hR
            have HWE : Hid (Lies W5 w.heap.size 0 R) := Lib.hid (by rw [hR, hW5]; exact HDW.out.whole)
            have IR : Hid ((Tryz.prog.info? 40).map (·.size) = some R.size) := Lib.hid (by rw [hR]; exact infoD15 _ _ _)
            have SR : Hid (R.size = Z.size) := Lib.hid (by rw [hR]; exact HZS.out _ _ _)
            have OR : Hid (R.all (·.oneCell') = true) := Lib.hid (by rw [hR]; exact dsa_one _ _ _)
            clear hR hW5
            go_wp2_with (first
              | (with_reducible refine wpList_load_lies rfl 40 (.tmp 3) rfl w.heap.size 0 rfl R HWE.out _ Tryz.underlying40 rfl IR.out ?_)
              | ((with_reducible refine wpList_store_lies rfl 40 (.tmp 6) (.tmp 78) rfl (w.heap.size + 1 + 1) 0 rfl R rfl Z HZE.out SR.out IR.out OR.out ?_); intro w7 N1 N2 N3)
              | fail)
            refine bodyPost_ret (v := .tuple #[.agg R, .int .i64 0]) (Mq.results_cell1 (p := 6) (u := 7) rfl _ w7 (w.heap.size + 1 + 1) _ _ rfl rfl (Lies.loadVar N1.out 40 _ Tryz.underlying40 rfl IR.out)) rfl ?_
            refine ⟨(some ⟨g1, 0, none⟩), C1, t1, by rw [HRR.out], Lib.hid (N2.out.bel HBE.out HBE.out.size (by omega)), Lib.hid ⟨HPU.out, ?_⟩⟩
            rw [HQ1.out]
            exact ownsRow_keep HLE5.out (fun g _ hg _ => N2.out.block g (HLE5.out.lt g hg).2 (fun e => by
              have := HAP.out g hg
              omega))
        · obtain rfl : dn = false := by rw [HDN.out]; exact decide_eq_false hpn
          have HPL9 : Hid (G j ++ [X] = L) := Lib.hid (by rw [hL, HP.out, HN3.out, HG.out]; exact gro_fin (X := X) (show ¬ Mq.pos r l < l.length by rw [← HP.out, ← HN3.out]; exact hpn))
          have HGJ := Lib.hid (HG2.out.below HPL.out.bel HG2.out.lt)
          have HFM : Hid (m + 2 ≤ 100000) := Lib.hid (by
            have h1 := HPL.out.len
            rw [HGL.out j (Nat.le_refl _)] at h1
            split at h1 <;> omega)
          clear hL hpn hlt hj
          obtain ⟨n, hn⟩ : ∃ n, n = j := ⟨_, rfl⟩
          subst hn
          go_upto_region 16 with (first
            | (with_reducible refine wpList_load_lies rfl 50 (.tmp 5) rfl (w.heap.size + 1) 0 rfl (Mq.dcells d2) HGJ.out _ Tryz.underlying50 rfl (Mq.infoC d2) ?_)
            | (with_reducible refine wpList_build_one rfl 38 130 (.tmp 60) rfl zI 12 96 #[.int .i64 r, .int .i64 d2.kind, .int .u32 d2.ses, .int .u32 d2.seq, .int .i64 d2.path, .int .u32 d2.tick, .int .u32 d2.A, .int .u32 d2.B, .int .i64 d2.K, .int .i64 d2.M, .int .i64 d2.ix, .slice d2.da d2.dl d2.dc] rfl Tryz.underlying38 HI.out rfl (by decide) (by decide) ?_; obtain ⟨ho8, hl8, hs8⟩ := HPL.out.room X; rw [HXD.out] at ho8 hl8 hs8; have HO8 := Lib.hid ho8; have HL8 := Lib.hid hl8; have HS8 := Lib.hid hs8; clear ho8 hl8 hs8)
            | (at_builtin; (with_reducible refine wpList_append_el rfl (.tmp 57) (.tmp 61) 38 130 rfl zI 12 96 Tryz.underlying38 HI.out HZI.out (by decide) (by decide) w2.heap.size A1 m C1 rfl _ HO8.out wr.heap.size rfl #[.int .i64 r, .int .i64 d2.kind, .int .u32 d2.ses, .int .u32 d2.seq, .int .i64 d2.path, .int .u32 d2.tick, .int .u32 d2.A, .int .u32 d2.B, .int .i64 d2.K, .int .i64 d2.M, .int .i64 d2.ix, .slice d2.da d2.dl d2.dc] rfl HL8.out HX1.out HPL.out.few HS8.out ?_); intro A3 C3 w8 HA8 HG8)
            | fail)
          rw [← HXD.out] at HA8 HG8
          have HPLX : Hid (PL w2 w8 A3 C3 (m + 1) L) := Lib.hid (by rw [← HPL9.out]; exact HPL.out.more HFM.out HA8.out HG8.out)
          clear HA8 HG8 HO8 HL8 HS8 HGJ HPL c161
          have HLL : Hid (L.length = n + 1) := Lib.hid (by rw [HLD.out, List.length_append, List.length_cons, List.length_take, List.length_drop]; have := HN3.out; have := HPN.out; omega)
          obtain ⟨g1, rfl⟩ : ∃ g1, A3 = some ⟨g1, 0, none⟩ := by
            rcases HPLX.out.own.2 with ⟨_, h0⟩ | ⟨g1, _, _, e, _⟩
            · have := HLL.out; omega
            · injection e with e _ _; exact ⟨g1, e⟩
          have hm : (m + 1) = n + 1 := HPLX.out.len.trans HLL.out
          have hdx : DB w8 w.heap.size t A C := HD2B.out.below HPLX.out.bel HD2B.out.lt
          have c162 : w8.cell? ⟨w.heap.size, 162, none⟩ = some (.int .i64 (t.q.room : Int)) := hdx.cells.2.2.1
          have f161 := hdx.frozen 161
          have f165 := hdx.frozen 165
          have c165 : w8.cell? ⟨w.heap.size, 165, none⟩ = some (.int .i64 (t.dr : Int)) := hdx.cells.2.2.2.2.2.1
          have c161 : w8.cell? ⟨w.heap.size, 161, none⟩ = some (.slice A n C) := (HPLX.out.bel.cell (p := ⟨w.heap.size, 161, none⟩) HD2B.out.lt).trans HC.out
          have hwd : IntKind.i64.wrap ((t.dr : Int) + 1) = (t.dr : Int) + 1 := by rw [IntKind.wrap_i64]; have := HDR.out; omega
          have HDX := Lib.hid hdx
          have HZX : Hid (Lies w8 (w.heap.size + 1 + 1) 0 Z) := Lib.hid (HZ2.out.below HPLX.out.bel HZ2.out.lt)
          have HBX : Hid (Below w.heap.size w w8) := Lib.hid (HBW2.out.trans (HPLX.out.bel.mono HBW2.out.size))
          have HOX := Lib.hid HPLX.out.own
          have hrm := HN.out
          rw [← HLE.out, ← HN3.out] at hrm
          have hr2 := HN2.out
          have hr1 := HN0.out
          rw [hm]
          by_cases hfull : n < t.q.room
          · obtain ⟨t1, ht1⟩ : ∃ t1 : Sd, t1 = { t with q := ⟨t.q.room, t.q.pushed + 1, L⟩ } := ⟨_, rfl⟩
            have HPU : Hid (t1 = t.push r d2) := Lib.hid (by rw [ht1, HLD.out]; unfold Sd.push Mq.Qn.push; rw [← HLE.out, if_pos (by rw [← HN3.out]; exact hfull), if_pos (by rw [← HN3.out]; exact hfull), Mq.Qn.ins, ← HLE.out, ← HP.out, ← HX.out])
            have HQ1 : Hid (t1.q.l = L) := Lib.hid (by rw [ht1])
            have HDW : Hid (DB (w8.setCell ⟨w.heap.size, 161, none⟩ (.slice (some ⟨g1, 0, none⟩) (n + 1) C3)) w.heap.size t1 (some ⟨g1, 0, none⟩) C3) := Lib.hid (by
              rw [ht1]
              exact hdx.tail 5 (by decide) (.slice (some ⟨g1, 0, none⟩) (n + 1) C3) (by rw [← HLL.out]; rfl) rfl)
            have hg1 : ((n : Int) + 1 > (t.q.room : Int)) = False := eq_false (by omega)
            have hg2 : ((t.q.room : Int) < (n : Int) + 1) = False := eq_false (by omega)
            have HLX : Hid (LR w8 w2.heap.size (some ⟨g1, 0, none⟩) C3 L) := HOX
            clear ht1 hdx hm hfull hrm hr2 hr1 HOX
            go_upto_region 20 with fail
            obtain ⟨W5, hW5⟩ : ∃ W5, W5 = w8.setCell ⟨w.heap.size, 161, none⟩ (.slice (some ⟨g1, 0, none⟩) (n + 1) C3) := ⟨_, rfl⟩
            rw [← hW5]
            have HBE : Hid (Below w.heap.size w W5) := Lib.hid (by rw [hW5]; exact HBX.out.setCell (p := ⟨w.heap.size, 161, none⟩) (Nat.le_refl _) _)
            have HLE5 : Hid (LR W5 w.heap.size (some ⟨g1, 0, none⟩) C3 L) := Lib.hid (by
              rw [hW5]
              exact ownsRow_low (ownsRow_keep HLX.out (fun g _ hg _ => by
                have h1 := (HLX.out.lt g hg).1
                have h2 := HS2.out
                rw [Below.heap_setCell _ ⟨w.heap.size, 161, none⟩ _ g (by show g ≠ w.heap.size; omega)])) HBW2.out.size)
            have HZE : Hid (Lies W5 (w.heap.size + 1 + 1) 0 Z) := Lib.hid (by rw [hW5]; exact (HZX.out.other (by show w.heap.size + 1 + 1 ≠ w.heap.size; omega) _))
            have HAP : Hid (∀ g, ((some ⟨g1, 0, none⟩) : Option Addr).map Addr.block = some g → w.heap.size + 3 ≤ g) := Lib.hid (fun g hg => by have h1 := (LR.low HLX.out g hg).1; have := HS2.out; omega)
            obtain ⟨R, hR⟩ : ∃ R, R = dsa t1 (some ⟨g1, 0, none⟩) C3 := ⟨_, rfl⟩
            have HRR := Lib.hid hR
            have HWE : Hid (Lies W5 w.heap.size 0 R) := Lib.hid (by rw [hR, hW5]; exact HDW.out.whole)
            have IR : Hid ((Tryz.prog.info? 40).map (·.size) = some R.size) := Lib.hid (by rw [hR]; exact infoD15 _ _ _)
            have SR : Hid (R.size = Z.size) := Lib.hid (by rw [hR]; exact HZS.out _ _ _)
            have OR : Hid (R.all (·.oneCell') = true) := Lib.hid (by rw [hR]; exact dsa_one _ _ _)
            clear hR hW5
            go_wp2_with (first
              | (with_reducible refine wpList_load_lies rfl 40 (.tmp 3) rfl w.heap.size 0 rfl R HWE.out _ Tryz.underlying40 rfl IR.out ?_)
              | ((with_reducible refine wpList_store_lies rfl 40 (.tmp 6) (.tmp 78) rfl (w.heap.size + 1 + 1) 0 rfl R rfl Z HZE.out SR.out IR.out OR.out ?_); intro w7 N1 N2 N3)
              | fail)
            refine bodyPost_ret (v := .tuple #[.agg R, .int .i64 0]) (Mq.results_cell1 (p := 6) (u := 7) rfl _ w7 (w.heap.size + 1 + 1) _ _ rfl rfl (Lies.loadVar N1.out 40 _ Tryz.underlying40 rfl IR.out)) rfl ?_
            refine ⟨(some ⟨g1, 0, none⟩), C3, t1, by rw [HRR.out], Lib.hid (N2.out.bel HBE.out HBE.out.size (by omega)), Lib.hid ⟨HPU.out, ?_⟩⟩
            rw [HQ1.out]
            exact ownsRow_keep HLE5.out (fun g _ hg _ => N2.out.block g (HLE5.out.lt g hg).2 (fun e => by
              have := HAP.out g hg
              omega))
          · have hreq : n = t.q.room := by omega
            obtain ⟨t1, ht1⟩ : ∃ t1 : Sd, t1 = { t with q := ⟨t.q.room, t.q.pushed + 1, L.dropLast⟩, dr := t.dr + 1 } := ⟨_, rfl⟩
            have HPU : Hid (t1 = t.push r d2) := Lib.hid (by rw [ht1, HLD.out]; unfold Sd.push Mq.Qn.push; rw [← HLE.out, if_neg (by rw [← HN3.out]; exact hfull), if_neg (by rw [← HN3.out]; exact hfull), Mq.Qn.ins, ← HLE.out, ← HP.out, ← HX.out])
            have HQ1 : Hid (t1.q.l = L.take t.q.room) := Lib.hid (by rw [ht1]; show L.dropLast = _; rw [List.dropLast_eq_take, HLL.out, hreq, Nat.add_sub_cancel])
            have HLK : Hid ((L.take t.q.room).length = t.q.room) := Lib.hid (by rw [List.length_take, HLL.out]; omega)
            have HDW : Hid (DB ((w8.setCell ⟨w.heap.size, 165, none⟩ (.int .i64 ((t.dr : Int) + 1))).setCell ⟨w.heap.size, 161, none⟩ (.slice (some ⟨g1, 0, none⟩) t.q.room C3)) w.heap.size t1 (some ⟨g1, 0, none⟩) C3) := Lib.hid ((hdx.tail (t' := { t with dr := t.dr + 1 }) 9 (by decide) (.int .i64 ((t.dr : Int) + 1)) rfl rfl).tail 5 (by decide) (.slice (some ⟨g1, 0, none⟩) t.q.room C3) (by
              have e : t1.q.l.length = t.q.room := by rw [HQ1.out]; exact HLK.out
              rw [← e, ht1]; rfl) (by rw [ht1]))
            have hg2 : ((t.q.room : Int) < (n : Int) + 1) = True := eq_true (by omega)
            have hi1 : (t.q.room : Int) ≤ (n : Int) + 1 := by omega
            have hi0 : (0 : Int) ≤ (t.q.room : Int) := by omega
            have hcap : (n : Int) + 1 ≤ (C3 : Int) := by
              rcases HOX.out.2 with ⟨e, _⟩ | ⟨_, _, _, e, _, _, h, _⟩
              · cases e
              · injection e with _ _ e3
                rw [HLL.out] at h
                omega
            have hi2 : (t.q.room : Int) ≤ (C3 : Int) := by omega
            have HLX : Hid (LR w8 w2.heap.size (some ⟨g1, 0, none⟩) C3 (L.take t.q.room)) := Lib.hid (HOX.out.cut t.q.room (by rw [HLL.out]; omega))
            clear ht1 hdx hm hfull hrm hr2 hr1 HOX hreq
            generalize t.q.room = rm at *
            go_upto_region 20 with fail
            obtain ⟨W5, hW5⟩ : ∃ W5, W5 = (w8.setCell ⟨w.heap.size, 165, none⟩ (.int .i64 ((t.dr : Int) + 1))).setCell ⟨w.heap.size, 161, none⟩ (.slice (some ⟨g1, 0, none⟩) rm C3) := ⟨_, rfl⟩
            rw [← hW5]
            have HBE : Hid (Below w.heap.size w W5) := Lib.hid (by rw [hW5]; exact (HBX.out.setCell (p := ⟨w.heap.size, 165, none⟩) (Nat.le_refl _) _).setCell (p := ⟨w.heap.size, 161, none⟩) (Nat.le_refl _) _)
            have HLE5 : Hid (LR W5 w.heap.size (some ⟨g1, 0, none⟩) C3 (L.take rm)) := Lib.hid (by
              rw [hW5]
              exact ownsRow_low (ownsRow_keep HLX.out (fun g _ hg _ => by
                have h1 := (HLX.out.lt g hg).1
                have h2 := HS2.out
                rw [Below.heap_setCell _ ⟨w.heap.size, 161, none⟩ _ g (by show g ≠ w.heap.size; omega), Below.heap_setCell _ ⟨w.heap.size, 165, none⟩ _ g (by show g ≠ w.heap.size; omega)])) HBW2.out.size)
            have HZE : Hid (Lies W5 (w.heap.size + 1 + 1) 0 Z) := Lib.hid (by rw [hW5]; exact ((HZX.out.other (by show w.heap.size + 1 + 1 ≠ w.heap.size; omega) _).other (by show w.heap.size + 1 + 1 ≠ w.heap.size; omega) _))
            have HAP : Hid (∀ g, ((some ⟨g1, 0, none⟩) : Option Addr).map Addr.block = some g → w.heap.size + 3 ≤ g) := Lib.hid (fun g hg => by have h1 := (LR.low HLX.out g hg).1; have := HS2.out; omega)
            obtain ⟨R, hR⟩ : ∃ R, R = dsa t1 (some ⟨g1, 0, none⟩) C3 := ⟨_, rfl⟩
            have HRR := Lib.hid hR
            have HWE : Hid (Lies W5 w.heap.size 0 R) := Lib.hid (by rw [hR, hW5]; exact HDW.out.whole)
            have IR : Hid ((Tryz.prog.info? 40).map (·.size) = some R.size) := Lib.hid (by rw [hR]; exact infoD15 _ _ _)
            have SR : Hid (R.size = Z.size) := Lib.hid (by rw [hR]; exact HZS.out _ _ _)
            have OR : Hid (R.all (·.oneCell') = true) := Lib.hid (by rw [hR]; exact dsa_one _ _ _)
            clear hR hW5
            go_wp2_with (first
              | (with_reducible refine wpList_load_lies rfl 40 (.tmp 3) rfl w.heap.size 0 rfl R HWE.out _ Tryz.underlying40 rfl IR.out ?_)
              | ((with_reducible refine wpList_store_lies rfl 40 (.tmp 6) (.tmp 78) rfl (w.heap.size + 1 + 1) 0 rfl R rfl Z HZE.out SR.out IR.out OR.out ?_); intro w7 N1 N2 N3)
              | fail)
            refine bodyPost_ret (v := .tuple #[.agg R, .int .i64 0]) (Mq.results_cell1 (p := 6) (u := 7) rfl _ w7 (w.heap.size + 1 + 1) _ _ rfl rfl (Lies.loadVar N1.out 40 _ Tryz.underlying40 rfl IR.out)) rfl ?_
            refine ⟨(some ⟨g1, 0, none⟩), C3, t1, by rw [HRR.out], Lib.hid (N2.out.bel HBE.out HBE.out.size (by omega)), Lib.hid ⟨HPU.out, ?_⟩⟩
            rw [HQ1.out]
            exact ownsRow_keep HLE5.out (fun g _ hg _ => N2.out.block g (HLE5.out.lt g hg).2 (fun e => by
              have := HAP.out g hg
              omega))
  · have h0n : (ck != 0) = true := by simp [h0]
    have HCN := Lib.hid h0
    have HWE : Hid (Lies w2 w.heap.size 0 V) := Lib.hid (by rw [HVV.out]; exact HD2B.out.whole)
    have IV : Hid ((Tryz.prog.info? 40).map (·.size) = some V.size) := Lib.hid (by rw [HVV.out]; exact infoD15 _ _ _)
    have SV : Hid (V.size = Z.size) := Lib.hid (by rw [HVV.out]; exact HZS.out _ _ _)
    have OV : Hid (V.all (·.oneCell') = true) := Lib.hid (by rw [HVV.out]; exact dsa_one _ _ _)
    clear h0
    go_wp2_with (first
      | (with_reducible refine wpList_load_lies rfl 40 (.tmp 3) rfl w.heap.size 0 rfl V HWE.out _ Tryz.underlying40 rfl IV.out ?_)
      | ((with_reducible refine wpList_store_lies rfl 40 (.tmp 6) (.tmp 20) rfl (w.heap.size + 1 + 1) 0 rfl V rfl Z HZ2.out SV.out IV.out OV.out ?_); intro w5 N1 N2 N3)
      | fail)
    refine bodyPost_ret (v := .tuple #[.agg V, .int .i64 ck]) (Mq.results_cell1 (p := 6) (u := 7) rfl _ w5 (w.heap.size + 1 + 1) _ _ rfl rfl (Lies.loadVar N1.out 40 _ Tryz.underlying40 rfl IV.out)) rfl ?_
    exact ⟨A, C, t, by rw [HVV.out], Lib.hid (N2.out.bel HBW2.out HBW2.out.size (by omega)), Lib.hid (.inl ⟨HCN.out, rfl, rfl, rfl⟩)⟩
end Go.Proofs.YtldhlknmabpanaaGreat.Mp
