/-
  Own text: slices.Clone; All: an iterator over two boxes, walked.
-/
import Derived.Test.YtnffngbkidehfaaNkH
import Derived.Lib.SliceRun
namespace Go.Proofs.Ytnffngbkidehfaa.Nk
open Go.RowKit

/-- Items in a slice that is copied. -/
def CopyTo (w : World) (n : Nat) (l : List It) (e : Ending) (w' : World) : Prop := ∃ A' C', e = .returned (.slice A' n C') ∧ Hid (OwnT w' w.heap.size (.slice A' n C') n l) ∧ Hid (Below w.heap.size w w')
set_option maxRecDepth 100000 in
theorem copy_any (A : Option Addr) (n C : Nat) (l : List It) (hn : n ≤ 1000) (w : World) (h : OwnT w 0 (.slice A n C) n l) :
    Calls Try.prog 102 #[.slice A n C] w (CopyTo w n l) := by
  have heq : ∀ (a : Option Addr) (w : World), (binOp .eql 162 (.slice a n C) (.slice none 0 0)).run Try.prog w = .ok (.bool a.isNone) w := fun a w => Lib.run_eql_slice_nil w 162 167 a n C 0 0 Try.underlying162
  rcases h.form with ⟨rfl, rfl, rfl, rfl⟩ | ⟨g, R, rfl, _, hgl, hg, _, _⟩
  · clear h
    go_enter Try.func102, Try.ntmps102
    go_wp2
    go_ret
    exact ⟨none, 0, rfl, Lib.hid (OwnT.none _ _), Lib.hid (Below.refl _ _)⟩
  · have hl := h.length
    obtain ⟨W1, hW1⟩ : ∃ W1, W1 = w.alloc (.cells #[] 167) := ⟨_, rfl⟩
    have hb1 : Below w.heap.size w W1 := by rw [hW1]; exact (Below.refl _ _).alloc (Nat.le_refl _) _
    have HE : Hid (OwnT W1 w.heap.size (.slice (some ⟨w.heap.size, 0, none⟩) 0 0) 0 []) := Lib.hid (OwnT.of (R := []) rfl (Nat.le_refl _) (by rw [hW1]; exact Go.Deep.blk_alloc_new w _) rfl (Nat.zero_le _))
    have HN : Hid (∀ j u, (icells l)[j]? = some u → W1.cell? ((⟨g, 0, none⟩ : Addr).add j) = some u) := Lib.hid (TBlk.src (P := []) (S := R) (by rw [List.nil_append]; exact (hb1.block g hgl).trans hg) 0 rfl)
    have HL := Lib.hid hl
    have HM : Hid (0 + n ≤ 100000) := Lib.hid (by omega)
    have HB1 := Lib.hid hb1
    have HLE : Hid (w.heap.size ≤ W1.heap.size) := Lib.hid hb1.size
    have HW1 := Lib.hid hW1
    clear h hg hl hn hb1 hW1 hgl
    go_enter Try.func102, Try.ntmps102
    go_wp2_with (first
      | (at_builtin; rw [← HW1.out]; (with_reducible refine wpList_append_items rfl (.tmp 5) (.tmp 6) rfl w.heap.size (some ⟨w.heap.size, 0, none⟩) 0 0 rfl [] HE.out ⟨g, 0, none⟩ n C rfl l HL.out HN.out HM.out HLE.out ?_); intro A' C' w' H1 H2)
      | fail)
    rw [Nat.zero_add] at H1
    go_ret
    refine ⟨A', C', rfl, H1, Lib.hid ?_⟩
    exact below_grown HB1.out H2.out.grown HLE.out (fun k hk => by simp at hk; omega)
/-- The iterator's two boxes. -/
structure ItB (w0 : World) (p p2 : Nat) (A : Option Addr) (n C : Nat) (l : List It) (now : Int) (w : World) : Prop where
  box : w.cell? ⟨p, 0, none⟩ = some (.slice A n C)
  nb : w.cell? ⟨p2, 0, none⟩ = some (.int .i64 now)
  own : OwnT w w0.heap.size (.slice A n C) n l
  bel : Below w0.heap.size w0 w
  lo : w0.heap.size ≤ p ∧ w0.heap.size ≤ p2
/-- What All answers. -/
def Iter (l : List It) (now : Int) (w : World) (e : Ending) (w' : World) : Prop :=
  ∃ p p2 A C, e = .returned (.func (.func 103) #[] #[.pointer (some ⟨p, 0, none⟩), .pointer (some ⟨p2, 0, none⟩)]) ∧ Hid (ItB w p p2 A l.length C l now w')
theorem blk_cell {w : World} {k : Nat} {v : Value} {t : TypeId} (h : w.heap[k]? = some (.cells #[v] t (0, 0))) : w.cell? ⟨k, 0, none⟩ = some v ∧ w.frozen? ⟨k, 0, none⟩ = false := by
  simp [World.cell?, World.frozen?, h]
theorem blk_alloc {w : World} {k : Nat} {v : Value} {t : TypeId} (h : w.heap[k]? = some (.cells #[v] t (0, 0))) (o : Obj) : (w.alloc o).cell? ⟨k, 0, none⟩ = some v ∧ (w.alloc o).frozen? ⟨k, 0, none⟩ = false :=
  blk_cell ((Below.heap_alloc w o k (Array.getElem?_eq_some_iff.1 h).1).trans h)
theorem two_news (w : World) (v1 v2 : Value) (t1 t2 : TypeId) : ((w.alloc (.cells #[v1] t1)).alloc (.cells #[v2] t2)).drew.heap[w.heap.size]? = some (.cells #[v1] t1 (0, 0)) ∧ ((w.alloc (.cells #[v1] t1)).alloc (.cells #[v2] t2)).drew.heap[w.heap.size + 1]? = some (.cells #[v2] t2 (0, 0)) := by
  have h1 := Go.Deep.blk_alloc_new w (.cells #[v1] t1)
  have h2 := Go.Deep.blk_alloc_new (w.alloc (.cells #[v1] t1)) (.cells #[v2] t2)
  refine ⟨(Below.heap_alloc (w.alloc (.cells #[v1] t1)) (.cells #[v2] t2) w.heap.size (by simp)).trans h1, ?_⟩
  have e : (w.alloc (.cells #[v1] t1)).heap.size = w.heap.size + 1 := by simp
  rw [e] at h2
  exact h2
theorem lt_two (w : World) (o o' : Obj) : w.heap.size < ((w.alloc o).alloc o').heap.size ∧ w.heap.size + 1 < ((w.alloc o).alloc o').heap.size := by constructor <;> simp <;> omega
/-- Where the two boxes may lie: behind the copy. -/
theorem itb_new (w w9 : World) {B n C9 : Nat} {A9 : Option Addr} {l : List It} (now : Int) (hb : Below w.heap.size w w9) (ho : OwnT w9 B (.slice A9 n C9) n l) (hB : w.heap.size ≤ B) :
    ItB w w9.heap.size (w9.heap.size + 1) A9 n C9 l now ((w9.alloc (.cells #[.slice A9 n C9] 162)).alloc (.cells #[.int .i64 now] 2)) ∧
    ItB w (w9.heap.size + 1) w9.heap.size A9 n C9 l now ((w9.alloc (.cells #[.int .i64 now] 2)).alloc (.cells #[.slice A9 n C9] 162)) := by
  have hk : ∀ o o', Below w9.heap.size w9 ((w9.alloc o).alloc o') := fun o o' => ((Below.refl _ _).alloc (Nat.le_refl _) _).alloc (by simp) _
  have h1 := two_news w9 (.slice A9 n C9) (.int .i64 now) 162 2
  have h2 := two_news w9 (.int .i64 now) (.slice A9 n C9) 2 162
  exact ⟨⟨(blk_cell h1.1).1, (blk_cell h1.2).1, (ho.low hB).below (hk _ _) (Nat.le_refl _), hb.trans ((hk _ _).mono hb.size), by have := hb.size; omega⟩,
    ⟨(blk_cell h2.2).1, (blk_cell h2.1).1, (ho.low hB).below (hk _ _) (Nat.le_refl _), hb.trans ((hk _ _).mono hb.size), by have := hb.size; omega⟩⟩
theorem set_blk {W : World} {k : Nat} {u : Value} {t : TypeId} (h : W.heap[k]? = some (.cells #[u] t (0, 0))) (v : Value) : (W.setCell ⟨k, 0, none⟩ v).heap[k]? = some (.cells #[v] t (0, 0)) := by
  simp [World.setCell, Array.getElem?_modify, h]
/-- Where both are written behind the copy. -/
theorem itb_set (w W : World) {n C9 k k' : Nat} {A9 : Option Addr} {l : List It} (now : Int) {u u' : Value} {t t' : TypeId} (h1 : W.heap[k]? = some (.cells #[u] t (0, 0))) (h2 : W.heap[k']? = some (.cells #[u'] t' (0, 0))) (hne : k ≠ k')
    (hb : Below w.heap.size w W) (ho : OwnT W w.heap.size (.slice A9 n C9) n l) (hg : ∀ g, A9.map Addr.block = some g → g ≠ k ∧ g ≠ k') (hk : w.heap.size ≤ k) (hk' : w.heap.size ≤ k') :
    ItB w k k' A9 n C9 l now ((W.setCell ⟨k, 0, none⟩ (.slice A9 n C9)).setCell ⟨k', 0, none⟩ (.int .i64 now)) := by
  have a1 := (Below.heap_setCell (W.setCell ⟨k, 0, none⟩ (.slice A9 n C9)) ⟨k', 0, none⟩ (.int .i64 now) k hne).trans (set_blk h1 (.slice A9 n C9))
  have a2 := set_blk ((Below.heap_setCell W ⟨k, 0, none⟩ (.slice A9 n C9) k' (fun e => hne e.symm)).trans h2) (.int .i64 now)
  refine ⟨(blk_cell a1).1, (blk_cell a2).1, ho.keep (fun g hg' => ?_), (hb.setCell (p := ⟨k, 0, none⟩) hk _).setCell (p := ⟨k', 0, none⟩) hk' _, hk, hk'⟩
  rw [own_block] at hg'
  obtain ⟨g1, g2⟩ := hg g hg'
  rw [Below.heap_setCell _ ⟨k', 0, none⟩ _ g g2, Below.heap_setCell _ ⟨k, 0, none⟩ _ g g1]
/-- Where one is written behind the copy. -/
theorem itb_one (w w9 : World) {B n C9 : Nat} {A9 : Option Addr} {l : List It} (now : Int) {u : Value} {t : TypeId} (h1 : w9.heap[w.heap.size]? = some (.cells #[u] t (0, 0))) (hb : Below w.heap.size w w9) (ho : OwnT w9 B (.slice A9 n C9) n l) (hB : w.heap.size < B) (hlt : w.heap.size < w9.heap.size) :
    ItB w w9.heap.size w.heap.size A9 n C9 l now ((w9.alloc (.cells #[.slice A9 n C9] 162)).setCell ⟨w.heap.size, 0, none⟩ (.int .i64 now)) ∧
    ItB w w.heap.size w9.heap.size A9 n C9 l now (((w9.alloc (.cells #[.int .i64 0] 2)).setCell ⟨w.heap.size, 0, none⟩ (.slice A9 n C9)).setCell ⟨w9.heap.size, 0, none⟩ (.int .i64 now)) := by
  have hal : ∀ o, (w9.alloc o).heap[w.heap.size]? = some (.cells #[u] t (0, 0)) := fun o => (Below.heap_alloc w9 o w.heap.size hlt).trans h1
  have hbl : ∀ o, Below w.heap.size w (w9.alloc o) := fun o => hb.alloc hb.size o
  have hol : ∀ o, OwnT (w9.alloc o) w.heap.size (.slice A9 n C9) n l := fun o => (ho.low (Nat.le_of_lt hB)).below ((Below.refl _ _).alloc (Nat.le_refl _) _) (Nat.le_refl _)
  have hg : ∀ g, A9.map Addr.block = some g → g ≠ w.heap.size ∧ g ≠ w9.heap.size := fun g e => by
    have := ho.lt g (by rw [own_block]; exact e)
    exact ⟨by omega, by omega⟩
  refine ⟨?_, itb_set w _ now (hal _) (Go.Deep.blk_alloc_new w9 _) (by omega) (hbl _) (hol _) hg (Nat.le_refl _) hb.size⟩
  have a1 := (Below.heap_setCell (w9.alloc (.cells #[.slice A9 n C9] 162)) ⟨w.heap.size, 0, none⟩ (.int .i64 now) w9.heap.size (by show w9.heap.size ≠ w.heap.size; omega)).trans (Go.Deep.blk_alloc_new w9 _)
  have a2 := set_blk (hal (.cells #[.slice A9 n C9] 162)) (.int .i64 now)
  refine ⟨(blk_cell a1).1, (blk_cell a2).1, (hol (.cells #[.slice A9 n C9] 162)).keep (fun g hg' => ?_), (hbl _).setCell (p := ⟨w.heap.size, 0, none⟩) (Nat.le_refl _) _, hb.size, Nat.le_refl _⟩
  rw [own_block] at hg'
  exact Below.heap_setCell _ ⟨w.heap.size, 0, none⟩ _ g (hg g hg').1
/-- Where both lie ahead of the copy. -/
theorem itb_two (w w9 : World) {B n C9 : Nat} {A9 : Option Addr} {l : List It} (now : Int) {u u' : Value} {t t' : TypeId} (h1 : w9.heap[w.heap.size]? = some (.cells #[u] t (0, 0))) (h2 : w9.heap[w.heap.size + 1]? = some (.cells #[u'] t' (0, 0))) (hb : Below w.heap.size w w9) (ho : OwnT w9 B (.slice A9 n C9) n l) (hB : w.heap.size + 1 < B) :
    ItB w w.heap.size (w.heap.size + 1) A9 n C9 l now ((w9.setCell ⟨w.heap.size, 0, none⟩ (.slice A9 n C9)).setCell ⟨w.heap.size + 1, 0, none⟩ (.int .i64 now)) ∧
    ItB w (w.heap.size + 1) w.heap.size A9 n C9 l now ((w9.setCell ⟨w.heap.size + 1, 0, none⟩ (.slice A9 n C9)).setCell ⟨w.heap.size, 0, none⟩ (.int .i64 now)) := by
  have hg : ∀ g, A9.map Addr.block = some g → g ≠ w.heap.size ∧ g ≠ w.heap.size + 1 := fun g e => by
    have := ho.lt g (by rw [own_block]; exact e)
    exact ⟨by omega, by omega⟩
  exact ⟨itb_set w w9 now h1 h2 (by omega) hb (ho.low (by omega)) hg (Nat.le_refl _) (Nat.le_succ _),
    itb_set w w9 now h2 h1 (by omega) hb (ho.low (by omega)) (fun g e => ⟨(hg g e).2, (hg g e).1⟩) (Nat.le_succ _) (Nat.le_refl _)⟩
set_option maxRecDepth 100000 in
theorem all_any (b : Nat) (Q : Qn) (A : Option Addr) (C : Nat) (hn : Q.l.length ≤ 1000) (w : World) (h : QB w b Q A C) :
    Calls Try.prog 83 #[.pointer (some ⟨b, 0, none⟩)] w (Iter Q.l Q.now w) := by
  obtain ⟨n, hN⟩ : ∃ n, n = Q.l.length := ⟨_, rfl⟩
  have HC : Hid (∀ w', Below w.heap.size w w' → w'.cell? ⟨b, 2, none⟩ = some (.slice A n C) ∧ w'.cell? ⟨b, 1, none⟩ = some (.int .i64 Q.now)) := Lib.hid (fun w' h1 => by
    obtain ⟨c0, c1, c2⟩ := (h.blk.below h1 h.blk.lt).cells
    rw [hN]
    exact ⟨c2, c1⟩)
  have CC : Hid (∀ w', Below w.heap.size w w' → Calls Try.prog 102 #[.slice A n C] w' (CopyTo w' n Q.l)) := Lib.hid (fun w' h1 => copy_any A n C Q.l (by omega) w' (by rw [hN]; exact (h.below h1 (Nat.le_refl _)).own))
  have HB0 : Hid (Below w.heap.size w w.drew) := Lib.hid (Below.refl _ _).drew
  have b1 : ∀ o, Below w.heap.size w (w.alloc o) := fun o => (Below.refl w.heap.size w).alloc (Nat.le_refl _) o
  have b2 : ∀ o o', Below w.heap.size w ((w.alloc o).alloc o') := fun o o' => (b1 o).alloc (b1 o).size o'
  have HB1 : Hid (∀ o, Below w.heap.size w (w.alloc o).drew) := Lib.hid (fun o => (b1 o).drew)
  have HB2 : Hid (∀ o o', Below w.heap.size w ((w.alloc o).alloc o').drew) := Lib.hid (fun o o' => (b2 o o').drew)
  have HN := Lib.hid hN
  clear b1 b2 h hn hN
  generalize Q.now = now at *
  go_enter Try.func83, Try.ntmps83
  go_upto_region 1 with fail
  go_cut [3, 4] (fun s3 s4 wx => ∃ p p2 A2 C2, s3 = .pointer (some ⟨p, 0, none⟩) ∧ s4 = .pointer (some ⟨p2, 0, none⟩) ∧ Hid (ItB w p p2 A2 n C2 Q.l now wx))
  case first =>
    go_region_held3 (fun w' => w'.cell? ⟨b, 2, none⟩ = some (.slice A n C) ∧ w'.cell? ⟨b, 1, none⟩ = some (.int .i64 now))
      (first | exact HC.out _ (Below.refl _ _) | exact HC.out _ HB0.out | exact HC.out _ (HB1.out _) | exact HC.out _ (HB2.out _ _) | exact HC.out _ HB9.out | exact HC.out _ (HB9.out.alloc HB9.out.size _) | exact HC.out _ ((HB9.out.alloc HB9.out.size _).alloc (HB9.out.alloc HB9.out.size _).size _) | exact HC.out _ (HB9.out.setCell (p := ⟨w.heap.size, 0, none⟩) (Nat.le_refl _) _) | exact HC.out _ ((HB9.out.setCell (p := ⟨w.heap.size, 0, none⟩) (Nat.le_refl _) _).setCell (p := ⟨w.heap.size + 1, 0, none⟩) (Nat.le_succ _) _) | exact HC.out _ (HB9.out.setCell (p := ⟨w.heap.size + 1, 0, none⟩) (Nat.le_succ _) _) | exact HC.out _ ((HB9.out.setCell (p := ⟨w.heap.size + 1, 0, none⟩) (Nat.le_succ _) _).setCell (p := ⟨w.heap.size, 0, none⟩) (Nat.le_refl _) _) | exact HC.out _ ((HB9.out.alloc HB9.out.size _).setCell (p := ⟨w.heap.size, 0, none⟩) (Nat.le_refl _) _) | exact HC.out _ ((HB9.out.alloc HB9.out.size _).setCell (p := ⟨w9.heap.size, 0, none⟩) HB9.out.size _) | exact HC.out _ (((HB9.out.alloc HB9.out.size _).setCell (p := ⟨w.heap.size, 0, none⟩) (Nat.le_refl _) _).setCell (p := ⟨w9.heap.size, 0, none⟩) HB9.out.size _) | exact HC.out _ (((HB9.out.alloc HB9.out.size _).setCell (p := ⟨w9.heap.size, 0, none⟩) HB9.out.size _).setCell (p := ⟨w.heap.size, 0, none⟩) (Nat.le_refl _) _))
      (first
        | (go_at_call 102; (with_reducible refine (CC.out _ HB0.out).mono ?_); rintro e w9 ⟨A9, C9, rfl, HO9, hb9⟩; have HB9 := Lib.hid (HB0.out.trans (hb9.out.mono HB0.out.size)); have ZN := Lib.hid (itb_new w w9 now HB9.out HO9.out (Nat.le_refl _)))
        | (go_at_call 102; (with_reducible refine (CC.out _ (HB1.out _)).mono ?_); rintro e w9 ⟨A9, C9, rfl, HO9, hb9⟩; have HB9 := Lib.hid ((HB1.out _).trans (hb9.out.mono (HB1.out _).size)); have z1 := (hb9.out.block w.heap.size (lt_alloc _ _)).trans (Go.Deep.blk_alloc_new w _); obtain ⟨z2, z3⟩ := blk_cell z1; have z4 := (fun o => (blk_alloc z1 o).1); have z5 := (fun o => (blk_alloc z1 o).2); have ZO := Lib.hid (itb_one w w9 now z1 HB9.out HO9.out (lt_alloc w _) (Nat.lt_of_lt_of_le (lt_alloc w _) hb9.out.size)); have ne1 : ¬ w9.heap.size = w.heap.size := Nat.ne_of_gt (Nat.lt_of_lt_of_le (lt_alloc w _) hb9.out.size); have ne2 : ¬ w.heap.size = w9.heap.size := fun e => ne1 e.symm; clear z1)
        | (go_at_call 102; (with_reducible refine (CC.out _ (HB2.out _ _)).mono ?_); rintro e w9 ⟨A9, C9, rfl, HO9, hb9⟩; have HB9 := Lib.hid ((HB2.out _ _).trans (hb9.out.mono (HB2.out _ _).size)); have z1 := (hb9.out.block w.heap.size (lt_two _ _ _).1).trans (two_news w _ _ _ _).1; have z2 := (hb9.out.block (w.heap.size + 1) (lt_two _ _ _).2).trans (two_news w _ _ _ _).2; obtain ⟨z3, z4⟩ := blk_cell z1; obtain ⟨z5, z6⟩ := blk_cell z2; have ZT := Lib.hid (itb_two w w9 now z1 z2 HB9.out HO9.out (lt_two w _ _).2); clear z1 z2)
        | fail)
    all_goals
      go_wp2
      go_meet
      first
      | exact ⟨_, _, _, _, rfl, rfl, Lib.hid ZN.out.1⟩
      | exact ⟨_, _, _, _, rfl, rfl, Lib.hid ZN.out.2⟩
      | exact ⟨_, _, _, _, rfl, rfl, Lib.hid ZO.out.1⟩
      | exact ⟨_, _, _, _, rfl, rfl, Lib.hid ZO.out.2⟩
      | exact ⟨_, _, _, _, rfl, rfl, Lib.hid ZT.out.1⟩
      | exact ⟨_, _, _, _, rfl, rfl, Lib.hid ZT.out.2⟩
  case rest =>
    obtain ⟨p, p2, A2, C2, rfl, rfl, HI⟩ := hcut
    go_wp2
    go_ret
    exact ⟨p, p2, A2, C2, rfl, by rw [← HN.out]; exact HI⟩
end Go.Proofs.Ytnffngbkidehfaa.Nk
