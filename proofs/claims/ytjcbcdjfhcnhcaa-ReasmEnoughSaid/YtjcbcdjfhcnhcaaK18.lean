/-
  Own text: layer 18 (reasm): of as many shards as are enough come the inputs, walked.
  Own text: layer 18 (reasm): a window in memory.
  Own text: layer 18 (reasm): what is next is told, walked.
-/
import Derived.Test.YtjcbcdjfhcnhcaaK17
import Derived.BigQuiet
namespace Go.Proofs.Ytjcbcdjfhcnhcaa
open Go.RowKit
theorem rowIs_heap18 {w : World} {g n : Nat} {e : TypeId} {f : Nat → Value} (h : w.rowIs g e n f) : ∃ C, w.heap[g]? = some (.cells C e (0, 0)) := by
  obtain ⟨C, hC, _⟩ := h
  exact ⟨C, hC⟩
theorem cell_ne18 {w : World} {b i j : Nat} {v x : Value} (h : w.cell? ⟨b, i, none⟩ = some x) (hij : i ≠ j) : (w.setCell ⟨b, j, none⟩ v).cell? ⟨b, i, none⟩ = some x := by
  rw [World.cell?_setCell_other]
  · exact h
  · intro e
    cases e
    exact hij rfl
theorem ixL_at {s : List Sd} {i : Nat} (h : i < s.length) : ixL s i = ((s[i]).ix : Int) := by unfold ixL; rw [List.getD_eq_getElem?_getD, List.getElem?_eq_getElem h]; rfl
theorem good_sd {s : List Sd} {N : Nat} (hix : ∀ x ∈ s, x.ix < N) (ho : s.Pairwise fun x y => x.ix ≠ y.ix) : GoodIx (ixL s) N s.length := by
  intro i hi
  rw [ixL_at hi]
  have h1 := hix _ (List.getElem_mem hi)
  refine ⟨by omega, by omega, fun j hj => ?_⟩
  rw [ixL_at (by omega : j < s.length)]
  have := (List.pairwise_iff_getElem.1 ho) j i (by omega) hi hj
  omega
/-- What the code's Decode answers of such shards. -/
def DecTo (k m : Nat) (s : List Sd) (w : World) (e : Ending) (w' : World) : Prop :=
  ∃ h A X, e = .returned (.tuple #[.slice (some ⟨h, 0, none⟩) k k, .int .i64 0]) ∧ Hid (ColsIn w' (some ⟨h, 0, none⟩) k k A (fun _ => 2) (fun _ => 2) X) ∧ Hid (∀ i, i < k → wordOf (X i) = (decAt k m s i : Nat)) ∧ Hid (Below w.heap.size w w')
theorem word_seg {l : List Int} (hb : By l) (i : Nat) (hl : i * 2 + 2 ≤ l.length) : wordOf (seg l (i * 2) 2) = (256 * co l (i * 2) + co l (i * 2 + 1) : Nat) := by
  have h0 := seg_get l (i * 2) 2 0 (by omega)
  have h1 := seg_get l (i * 2) 2 1 (by omega)
  have hn := seg_length l (i * 2) 2 hl
  obtain ⟨x, y, e⟩ : ∃ x y, seg l (i * 2) 2 = [x, y] := by
    match seg l (i * 2) 2, hn with
    | [x, y], _ => exact ⟨x, y, rfl⟩
  rw [e] at h0 h1 ⊢
  have b0 := hb (l.getD (i * 2) 0) (by rw [List.getD_eq_getElem?_getD, List.getElem?_eq_getElem (by omega)]; exact List.getElem_mem _)
  have b1 := hb (l.getD (i * 2 + 1) 0) (by rw [List.getD_eq_getElem?_getD, List.getElem?_eq_getElem (by omega)]; exact List.getElem_mem _)
  simp at h0 h1
  unfold co
  simp only [List.getD_eq_getElem?_getD] at b0 b1 ⊢
  rw [← h0] at b0 ⊢
  rw [← h1] at b1 ⊢
  simp [wordOf]
  omega
theorem dec_code (b t k m cap : Nat) (a : Option Addr) (s : List Sd) (A : Nat → Option Addr) (C : Nat → Nat) (w : World) (hk1 : 1 ≤ k) (hk2 : k ≤ 16) (hm : m ≤ 16) (hl : s.length = k) (hix : ∀ x ∈ s, x.ix < k + m) (ho : s.Pairwise fun x y => x.ix ≠ y.ix) (h : IsCode w b t k m) (hs : ShardsIn w a k cap (ixL s) A (fun _ => 2) C (byL s)) :
    Calls Try.prog 79 #[.pointer (some ⟨b, 0, none⟩), .slice a k cap] w (DecTo k m s w) := by
  have hg : GoodIx (ixL s) (k + m) k := by have := good_sd hix ho; rwa [hl] at this
  refine (good_decode (I := ixL s) (X := byL s) (L := fun _ => 2) ⟨hg, Nat.le_refl _, fun j _ => ⟨rfl, show 2 ≤ 1200 by omega⟩⟩ h hs).mono fun e w' he => ?_
  obtain ⟨h', g, l, rfl, _, _, h3, h4, h5, h6⟩ := he
  have hd := h4.size
  have hc := cols_applied h3 h4 (by omega) (by omega)
  refine ⟨h', _, _, rfl, Lib.hid hc, Lib.hid (fun i hi => ?_), Lib.hid h6⟩
  have h7 : i * 2 + 2 ≤ l.length := by rw [hd]; omega
  rw [word_seg h4.by_ i h7]
  have e0 := h5 i 0 hi (by omega)
  have e1 := h5 i 1 hi (by omega)
  unfold gr at e0 e1
  rw [Nat.add_zero] at e0
  unfold decAt
  rw [hl, ← e0, ← e1]
theorem ins_get (p : Pt) (i : Nat) (hi : i < p.k) : p.ins.getD i 0 = (decAt p.k p.m p.sh i : Nat) := by
  unfold Pt.ins decIn
  rw [List.getD_eq_getElem?_getD, List.getElem?_map, List.getElem?_range hi]
  rfl
theorem inputs18 (p : Pt) (h : Nat) (A : Nat → Option Addr) (X : Nat → List Int) (w : World) (hk2 : p.k ≤ 16) (hc : ColsIn w (some ⟨h, 0, none⟩) p.k p.k A (fun _ => 2) (fun _ => 2) X) (hX : ∀ i, i < p.k → wordOf (X i) = (decAt p.k p.m p.sh i : Nat)) :
    Calls Try.prog 80 #[.slice (some ⟨h, 0, none⟩) p.k p.k] w (TakenTo p.k (fun i => p.ins.getD i 0) w) := by
  refine (inputs_any p.k p.k _ A (fun _ => 2) (fun _ => 2) X w hc (by omega) (fun i => p.ins.getD i 0) (fun i hi _ => ?_)).mono fun e w' he => ?_
  · rw [ins_get p i hi, hX i hi]
  · rcases he with ⟨_, h1⟩ | ⟨⟨i, _, h2⟩, _⟩
    · exact h1
    · exact absurd rfl h2
/-- What mend leaves. -/
def MendTo (b o md base : Nat) (p : Pt) (w : World) (e : Ending) (w' : World) : Prop :=
  (∃ u, e = .returned u) ∧ ∃ g, Hid (Lies w' b o #[.int .u32 (p.fst : Nat), .int .i64 (p.k : Nat), .int .i64 (p.m : Nat), .slice none 0 0, .slice (some ⟨g, 0, none⟩) p.k p.k]) ∧ Hid (w'.rowIs g 79 p.k (fun i => .int .u16 (p.ins.getD i 0))) ∧ Hid (w.heap.size ≤ g) ∧
    Hid (w'.cell? ⟨b, 4, none⟩ = some (.int .i64 ((if hasPar p.sh p.k = true then md + 1 else md : Nat) : Int))) ∧ Hid (PrtR b none (fun j => j = 4 ∨ Sl5 o j) w w')
theorem hasPar_iff (s : List Sd) (k : Nat) : hasPar s k = true ↔ ∃ j, j < s.length ∧ decide ((k : Int) ≤ ixL s j) = true := by
  unfold hasPar
  rw [List.any_eq_true]
  constructor
  · rintro ⟨x, hx, hd⟩
    obtain ⟨j, hj⟩ := List.mem_iff_getElem?.1 hx
    obtain ⟨h1, rfl⟩ := List.getElem?_eq_some_iff.1 hj
    refine ⟨j, h1, ?_⟩
    rw [ixL_at h1]
    have := of_decide_eq_true hd
    exact decide_eq_true (by omega)
  · rintro ⟨j, hj, hd⟩
    rw [ixL_at hj] at hd
    have := of_decide_eq_true hd
    exact ⟨s[j], List.getElem_mem hj, decide_eq_true (by omega)⟩
set_option maxRecDepth 100000 in
set_option maxHeartbeats 4000000 in
theorem mend18 (b o t md base cap : Nat) (a : Option Addr) (p : Pt) (w : World) (hp : p.ok) (hf : p.full) (hmd : md ≤ 1000) (h5 : 5 ≤ o) (hbt : t ≠ b) (hL : Lies w b o #[.int .u32 (p.fst : Nat), .int .i64 (p.k : Nat), .int .i64 (p.m : Nat), .slice a p.k cap, .slice none 0 0]) (hT : Typ w b 105) (c0 : w.cell? ⟨b, 0, none⟩ = some (.pointer (some ⟨t, 0, none⟩))) (c4 : w.cell? ⟨b, 4, none⟩ = some (.int .i64 md)) (ht : IsTab w t) (hR : ShO w base (fun _ => True) (.slice a p.k cap) p.sh) :
    Calls Try.prog 52 #[.pointer (some ⟨b, 0, none⟩), .pointer (some ⟨b, o, none⟩)] w (MendTo b o md base p w) := by
  have hk1 := hp.k1
  have hk2 := hp.k2
  have hm2 := hp.m2
  have hbw : b < w.heap.size := hL.lt
  obtain ⟨W, hW⟩ : ∃ W, W = w.alloc (.cells #[.pointer (some ⟨b, o, none⟩)] 115) := ⟨_, rfl⟩
  have hb : Below w.heap.size w W := by rw [hW]; exact (Below.refl _ _).alloc (Nat.le_refl _) _
  have hx : W.cell? ⟨w.heap.size, 0, none⟩ = some (.pointer (some ⟨b, o, none⟩)) := by rw [hW]; exact new_box _ _ _
  obtain ⟨A, C, hsh⟩ := hR.shards hf (fun x hx => by have := (hp.ix x hx).1; omega)
  -- what holds in each world to come, whatever cell 4 is
  have HALL : Hid (∀ u, Below W.heap.size W u → Lies u b o #[.int .u32 (p.fst : Nat), .int .i64 (p.k : Nat), .int .i64 (p.m : Nat), .slice a p.k cap, .slice none 0 0] ∧ Typ u b 105 ∧ u.cell? ⟨b, 0, none⟩ = some (.pointer (some ⟨t, 0, none⟩)) ∧ u.cell? ⟨b, 4, none⟩ = some (.int .i64 md) ∧ IsTab u t ∧ ShO u base (fun _ => True) (.slice a p.k cap) p.sh ∧ u.cell? ⟨w.heap.size, 0, none⟩ = some (.pointer (some ⟨b, o, none⟩)) ∧ Below w.heap.size w u) := Lib.hid (fun u hu => by
    have hu2 := hb.trans (hu.mono hb.size)
    exact ⟨hL.below hu2 hbw, hT.below hu2 (Nat.le_refl _), (hu2.cell (p := ⟨b, 0, none⟩) hbw).trans c0, (hu2.cell (p := ⟨b, 4, none⟩) hbw).trans c4, ht.below hu2 (World.rowIs.lt ht), hR.below hu2 (Nat.le_refl _), (hu.cell (p := ⟨w.heap.size, 0, none⟩) (World.block_lt_of_cell? W _ hx)).trans hx, hu2⟩)
  have HC := Lib.hid (fun u (hu : Below W.heap.size W u) => contains18_mend w.heap.size p.k cap a (ixL p.sh) A (fun _ => 2) C (byL p.sh) (fun j => decide ((p.k : Int) ≤ ixL p.sh j)) u (by omega) (hsh.below (HALL.out u hu).2.2.2.2.2.2.2 (Nat.le_refl _)) (fun w' r hw' _ => mend1_18 w.heap.size b o (p.k : Int) (ixL p.sh r) (A r) 2 (C r) w' (HALL.out w' (hu.trans (hw'.mono hu.size))).2.2.2.2.2.2.1 (lies_get (HALL.out w' (hu.trans (hw'.mono hu.size))).1 1 rfl)) (hasPar p.sh p.k) (by rw [hasPar_iff]; rw [show p.sh.length = p.k from hf]))
  have HBT : Hid (t ≠ b) := Lib.hid hbt
  have HP := Lib.hid hp
  have HF := Lib.hid hf
  have H5 := Lib.hid h5
  have HBW := Lib.hid hbw
  have HKM := Lib.hid (And.intro hk1 (And.intro hk2 hm2))
  have HWS : Hid (w.heap.size < W.heap.size) := Lib.hid (World.block_lt_of_cell? W _ hx)
  obtain ⟨hl, _, _, d4, _, _, k0, _⟩ := HALL.out W (Below.refl _ _)
  have k3 := lies_get hl 3 rfl
  have j4 : (md : Int) ≤ 1000 := by omega
  have q4 := hl.frozen 4
  clear hL hT c0 c4 ht hR hsh hx hb hl hk1 hk2 hm2 hbw hp hf h5 hbt hmd
  go_enter Try.func52, Try.ntmps52
  go_upto_region 1 with fail
  rw [← hW]
  clear hW
  cases hv : hasPar p.sh p.k
  all_goals
    rw [hv] at HC
  case' true =>
    go_upto_region 2 with (first
      | (go_at_call 76; (with_reducible refine (HC.out _ (Below.refl _ _)).mono ?_); rintro e w1 ⟨rfl, hb1⟩; have HB1 := Lib.hid hb1; clear hb1; obtain ⟨hl1, _, _, d4, _⟩ := HALL.out _ HB1.out; have q4 := hl1.frozen 4; clear hl1)
      | fail "arm1")
    go_upto_region 3 with fail
    have HMD : Hid (md + 1 = if hasPar p.sh p.k = true then md + 1 else md) := Lib.hid (by rw [hv]; rfl)
    obtain ⟨W3, hW3⟩ : ∃ W3, W3 = w1.setCell ⟨b, 4, none⟩ (.int .i64 ((md : Int) + 1)) := ⟨_, rfl⟩
    rw [← hW3]
    obtain ⟨md', hmd'⟩ : ∃ x, x = md + 1 := ⟨_, rfl⟩
    have H3 : Hid (∀ u, Below W3.heap.size W3 u → Lies u b o #[.int .u32 (p.fst : Nat), .int .i64 (p.k : Nat), .int .i64 (p.m : Nat), .slice a p.k cap, .slice none 0 0] ∧ Typ u b 105 ∧ u.cell? ⟨b, 0, none⟩ = some (.pointer (some ⟨t, 0, none⟩)) ∧ u.cell? ⟨b, 4, none⟩ = some (.int .i64 ((md' : Nat) : Int)) ∧ IsTab u t ∧ ShO u base (fun _ => True) (.slice a p.k cap) p.sh ∧ u.cell? ⟨w.heap.size, 0, none⟩ = some (.pointer (some ⟨b, o, none⟩))) := Lib.hid (fun u hu => by
      obtain ⟨a1, a2, a3, a4, a5, a6, a7, _⟩ := HALL.out _ HB1.out
      have hbl := a1.lt
      have hk : ∀ k, k ≠ b → W3.heap[k]? = w1.heap[k]? := fun k hk => by rw [hW3]; exact set_other18 _ _ _ _ _ hk
      have b1 : Lies W3 b o #[.int .u32 (p.fst : Nat), .int .i64 (p.k : Nat), .int .i64 (p.m : Nat), .slice a p.k cap, .slice none 0 0] := by rw [hW3]; exact a1.beside ((Prt.refl b 4 1 w1).set0 (by omega) _) (.inr H5.out)
      have b2 : Typ W3 b 105 := by rw [hW3]; exact a2.set _ _
      have b3 : W3.cell? ⟨b, 0, none⟩ = some (.pointer (some ⟨t, 0, none⟩)) := by rw [hW3]; exact cell_ne18 a3 (by omega)
      have b4 : W3.cell? ⟨b, 4, none⟩ = some (.int .i64 ((md' : Nat) : Int)) := by rw [hW3, World.cell?_setCell_same _ _ _ a4, hmd']; simp
      have b5 : IsTab W3 t := a5.keep (hk t HBT.out)
      have hwb : w.heap.size ≠ b := by have := HBW.out; omega
      have b7 : W3.cell? ⟨w.heap.size, 0, none⟩ = some (.pointer (some ⟨b, o, none⟩)) := cell_blk a7 (hk _ hwb)
      have b6 : ShO W3 base (fun _ => True) (.slice a p.k cap) p.sh := by rw [hW3]; exact a6.setAt a2 (by decide) (by decide) _ _
      exact ⟨b1.below hu b1.lt, b2.below hu (Nat.le_refl _), (hu.cell (p := ⟨b, 0, none⟩) b1.lt).trans b3, (hu.cell (p := ⟨b, 4, none⟩) b1.lt).trans b4, b5.below hu (World.rowIs.lt b5), b6.below hu (Nat.le_refl _), (hu.cell (p := ⟨w.heap.size, 0, none⟩) (World.block_lt_of_cell? W3 _ b7)).trans b7⟩)
    have HP3 : Hid (PrtR b none (fun j => j = 4 ∨ Sl5 o j) w W3) := Lib.hid (by rw [hW3]; exact (PrtR.of_below HBW.out (HALL.out _ HB1.out).2.2.2.2.2.2.2).set 4 (.inl rfl) _)
    replace HMD : Hid (md' = if hasPar p.sh p.k = true then md + 1 else md) := Lib.hid (hmd'.trans HMD.out)
    clear hW3 hmd' d4 q4
  case' false =>
    go_upto_region 3 with (first
      | (go_at_call 76; (with_reducible refine (HC.out _ (Below.refl _ _)).mono ?_); rintro e w1 ⟨rfl, hb1⟩; have HB1 := Lib.hid hb1; clear hb1; obtain ⟨hl1, _, _, d4, _⟩ := HALL.out _ HB1.out; have q4 := hl1.frozen 4; clear hl1)
      | fail "arm1")
    have HMD : Hid (md = if hasPar p.sh p.k = true then md + 1 else md) := Lib.hid (by rw [hv]; rfl)
    obtain ⟨W3, hW3⟩ : ∃ W3, W3 = w1 := ⟨_, rfl⟩
    rw [← hW3]
    obtain ⟨md', hmd'⟩ : ∃ x, x = md := ⟨_, rfl⟩
    have H3 : Hid (∀ u, Below W3.heap.size W3 u → Lies u b o #[.int .u32 (p.fst : Nat), .int .i64 (p.k : Nat), .int .i64 (p.m : Nat), .slice a p.k cap, .slice none 0 0] ∧ Typ u b 105 ∧ u.cell? ⟨b, 0, none⟩ = some (.pointer (some ⟨t, 0, none⟩)) ∧ u.cell? ⟨b, 4, none⟩ = some (.int .i64 ((md' : Nat) : Int)) ∧ IsTab u t ∧ ShO u base (fun _ => True) (.slice a p.k cap) p.sh ∧ u.cell? ⟨w.heap.size, 0, none⟩ = some (.pointer (some ⟨b, o, none⟩))) := Lib.hid (fun u hu => by
      rw [hW3] at hu
      obtain ⟨a1, a2, a3, a4, a5, a6, a7, _⟩ := HALL.out u (HB1.out.trans (hu.mono HB1.out.size))
      exact ⟨a1, a2, a3, by rw [hmd']; exact a4, a5, a6, a7⟩)
    have HP3 : Hid (PrtR b none (fun j => j = 4 ∨ Sl5 o j) w W3) := Lib.hid (by rw [hW3]; exact PrtR.of_below HBW.out (HALL.out _ HB1.out).2.2.2.2.2.2.2)
    replace HMD : Hid (md' = if hasPar p.sh p.k = true then md + 1 else md) := Lib.hid (hmd'.trans HMD.out)
    clear hW3 hmd' d4 q4
  all_goals
    have HBS : Hid (w.heap.size < W3.heap.size ∧ b < W3.heap.size ∧ w.heap.size ≠ b) := Lib.hid (by
      obtain ⟨a1, _, _, _, _, _, a7⟩ := H3.out W3 (Below.refl _ _)
      exact ⟨World.block_lt_of_cell? W3 _ a7, a1.lt, by have := HBW.out; omega⟩)
    clear HALL HC hv k0 k3 j4
    have cc : Below W3.heap.size W3 W3.drew := (Below.refl _ _).drew
    have HS3 : Hid (∀ u, Below W3.heap.size W3 u → u.cell? ⟨b, 0, none⟩ = some (.pointer (some ⟨t, 0, none⟩)) ∧ u.cell? ⟨b, o + 1, none⟩ = some (.int .i64 (p.k : Nat)) ∧ u.cell? ⟨b, o + 2, none⟩ = some (.int .i64 (p.m : Nat)) ∧ u.cell? ⟨w.heap.size, 0, none⟩ = some (.pointer (some ⟨b, o, none⟩))) := Lib.hid (fun u hu => by
      obtain ⟨a1, _, a3, _, _, _, a7⟩ := H3.out u hu
      exact ⟨a3, lies_get a1 1 rfl, lies_get a1 2 rfl, a7⟩)
    have HCN := Lib.hid (fun u (hu : Below W3.heap.size W3 u) => code_some t p.k p.m HKM.out.1 (by have := HKM.out; omega) u (H3.out u hu).2.2.2.2.1)
    go_region_held3 (fun u => u.cell? ⟨b, 0, none⟩ = some (.pointer (some ⟨t, 0, none⟩)) ∧ u.cell? ⟨b, o + 1, none⟩ = some (.int .i64 (p.k : Nat)) ∧ u.cell? ⟨b, o + 2, none⟩ = some (.int .i64 (p.m : Nat)) ∧ u.cell? ⟨w.heap.size, 0, none⟩ = some (.pointer (some ⟨b, o, none⟩)))
      (first
        | exact HS3.out _ cc
        | fail "keep3")
      (first
        | (go_at_call 30; (with_reducible refine (HCN.out _ cc).mono ?_); rintro e w4 ⟨b2, rfl, _, hcode, hb4⟩; have HCODE := Lib.hid hcode; replace cc := cc.trans (hb4.mono cc.size); clear hcode hb4)
        | fail "arm3")
    obtain ⟨A4, C4, hs4⟩ := (H3.out _ cc).2.2.2.2.2.1.shards HF.out (fun x hx => by have := (HP.out.ix x hx).1; have := HKM.out; omega)
    have HDC := Lib.hid (dec_code b2 t p.k p.m cap a p.sh A4 C4 w4 HKM.out.1 HKM.out.2.1 HKM.out.2.2 HF.out (fun x hx => (HP.out.ix x hx).1) HP.out.once HCODE.out hs4)
    clear hs4
    obtain ⟨a1, _, _, _, _, _, k0⟩ := H3.out _ cc
    have k3 := lies_get a1 3 rfl
    clear a1
    go_upto_region 5 with (first
      | (go_at_call 79; (with_reducible refine HDC.out.mono ?_); rintro e w5 ⟨h', AX, X, rfl, HCOL, HX, HB5⟩; have c5 := cc.trans (HB5.out.mono cc.size))
      | fail "arm4")
    clear k0 k3
    have HIN := Lib.hid (fun u (hu : Below w5.heap.size w5 u) => inputs18 p h' AX X u HKM.out.2.1 (HCOL.out.below hu (Nat.le_refl _)) HX.out)
    have c6 : Below w5.heap.size w5 w5.drew := (Below.refl _ _).drew
    have HSX : Hid (∀ u x, Below W3.heap.size W3 u → (u.setCell ⟨b, o + 4, none⟩ x).cell? ⟨w.heap.size, 0, none⟩ = some (.pointer (some ⟨b, o, none⟩))) := Lib.hid (fun u x hu => by
      exact cell_blk (H3.out u hu).2.2.2.2.2.2 (set_other18 _ _ _ _ _ HBS.out.2.2))
    go_region_held3 (fun u => u.cell? ⟨w.heap.size, 0, none⟩ = some (.pointer (some ⟨b, o, none⟩)))
      (first
        | exact (H3.out _ (c5.trans (c6.mono c5.size))).2.2.2.2.2.2
        | exact HSX.out _ _ (c5.trans (c6.mono c5.size))
        | fail "keep5")
      (first
        | (go_at_call 80; (with_reducible refine (HIN.out _ c6).mono ?_); rintro e w6 ⟨g, rfl, HG1, HG2, HG3⟩; replace c6 := c6.trans (HG3.out.mono c6.size); have hl6 := (H3.out _ (c5.trans (c6.mono c5.size))).1; have l4 := lies_get hl6 4 rfl; have f4 := hl6.frozen (o + 4); clear hl6)
        | fail "arm5")
    all_goals
      have c7 := c5.trans (c6.mono c5.size)
      obtain ⟨a1, a2, _, a4, _, _, _⟩ := H3.out _ c7
      have HL6 := Lib.hid (a1.set 4 (.slice (some ⟨g, 0, none⟩) p.k p.k))
      have HA2 := Lib.hid a2
      have HA4 := Lib.hid a4
      have HC7 := Lib.hid c7
      have k0 := HSX.out _ (.slice (some ⟨g, 0, none⟩) p.k p.k) c7
      have k3 := lies_get HL6.out 3 rfl
      have f3 := HL6.out.frozen (o + 3)
      have HC5 := Lib.hid c5
      clear a1 a2 a4 c7 c6 c5 cc l4 f4
      go_wp2
      go_end0
      refine ⟨⟨_, rfl⟩, g, Lib.hid ((HL6.out.set 3 _).eq rfl), Lib.hid ?_, Lib.hid ?_, Lib.hid ?_, Lib.hid ?_⟩
      · have e1 := HG2.out
        refine World.rowIs.of_block e1 ?_
        have hne : g ≠ b := Typ.ne (rowIs_heap18 e1) HA2.out (by decide)
        rw [set_other18 _ _ _ _ _ hne, set_other18 _ _ _ _ _ hne]
      · exact Nat.le_trans (Nat.le_trans (Nat.le_of_lt HBS.out.1) HC5.out.size) HG1.out
      · have h4 := HA4.out
        rw [HMD.out] at h4
        exact cell_ne18 (cell_ne18 h4 (by have := H5.out; omega)) (by have := H5.out; omega)
      · exact ((HP3.out.below HBS.out.2.1 HC7.out).set (o + 4) (.inr (by unfold Sl5; omega)) _).set (o + 3) (.inr (by unfold Sl5; omega)) _
end Go.Proofs.Ytjcbcdjfhcnhcaa
namespace Go.Proofs.Ytjcbcdjfhcnhcaa
open Go.RowKit

/-- The cells of a window. -/
structure WinC (C : Array Value) (t base fr db md : Nat) (sv : Nat → Array Value) (rd : Value) : Prop where
  size : C.size = 166
  c0 : C[0]? = some (.pointer (some ⟨t, 0, none⟩))
  c1 : C[1]? = some (.int .u32 (base : Nat))
  c2 : C[2]? = some (.int .i64 (fr : Nat))
  c3 : C[3]? = some (.int .i64 (db : Nat))
  c4 : C[4]? = some (.int .i64 (md : Nat))
  c165 : C[165]? = some rd
  slot : ∀ s, s < 32 → (sv s).size = 5 ∧ ∀ j, j < 5 → C[5 + s * 5 + j]? = (sv s)[j]?
/-- A window's block. -/
def WB (w : World) (b t base fr db md : Nat) (sv : Nat → Array Value) (rd : Value) : Prop :=
  ∃ C, w.heap[b]? = some (.cells C 105 (0, 0)) ∧ WinC C t base fr db md sv rd
theorem cell_of18 {w : World} {b : Nat} {C : Array Value} {t : TypeId} (h : w.heap[b]? = some (.cells C t (0, 0))) (i : Nat) : w.cell? ⟨b, i, none⟩ = C[i]? := by simp [World.cell?, h]
section
variable {w w' : World} {b t base fr db md : Nat} {sv : Nat → Array Value} {rd : Value}
theorem WB.typ (h : WB w b t base fr db md sv rd) : Typ w b 105 := by
  obtain ⟨C, hC, _⟩ := h
  exact ⟨C, hC⟩
theorem WB.cells (h : WB w b t base fr db md sv rd) : w.cell? ⟨b, 0, none⟩ = some (.pointer (some ⟨t, 0, none⟩)) ∧ w.cell? ⟨b, 1, none⟩ = some (.int .u32 (base : Nat)) ∧ w.cell? ⟨b, 2, none⟩ = some (.int .i64 (fr : Nat)) ∧ w.cell? ⟨b, 3, none⟩ = some (.int .i64 (db : Nat)) ∧ w.cell? ⟨b, 4, none⟩ = some (.int .i64 (md : Nat)) ∧ w.cell? ⟨b, 165, none⟩ = some rd := by
  obtain ⟨C, hC, h⟩ := h
  exact ⟨(cell_of18 hC 0).trans h.c0, (cell_of18 hC 1).trans h.c1, (cell_of18 hC 2).trans h.c2, (cell_of18 hC 3).trans h.c3, (cell_of18 hC 4).trans h.c4, (cell_of18 hC 165).trans h.c165⟩
theorem WB.frozen (h : WB w b t base fr db md sv rd) (i : Nat) : w.frozen? ⟨b, i, none⟩ = false := by
  obtain ⟨C, hC, _⟩ := h
  exact blk_frozen hC i
theorem WB.lies (h : WB w b t base fr db md sv rd) {s : Nat} (hs : s < 32) : Lies w b (5 + s * 5) (sv s) := by
  obtain ⟨C, hC, h⟩ := h
  obtain ⟨h1, h2⟩ := h.slot s hs
  exact ⟨C, _, hC, by rw [h1, h.size]; omega, fun j hj => h2 j (by omega)⟩
theorem WB.keep (h : WB w b t base fr db md sv rd) (e : w'.heap[b]? = w.heap[b]?) : WB w' b t base fr db md sv rd := by
  obtain ⟨C, hC, h⟩ := h
  exact ⟨C, e.trans hC, h⟩
theorem PrtR.cell {P : Nat → Prop} {R : Option Nat} (hp : PrtR b R P w w') {i : Nat} {v : Value} {T : TypeId} (hT : Typ w b T) (h : w.cell? ⟨b, i, none⟩ = some v) (hi : ¬ P i) : w'.cell? ⟨b, i, none⟩ = some v := by
  obtain ⟨C, hC⟩ := hT
  obtain ⟨C', hC', _, hg⟩ := hp.part C _ hC
  rw [cell_of18 hC', hg i hi, ← cell_of18 hC]
  exact h
theorem PrtR.typ {P : Nat → Prop} {R : Option Nat} (hp : PrtR b R P w w') {T : TypeId} (hT : Typ w b T) : Typ w' b T := by
  obtain ⟨C, hC⟩ := hT
  obtain ⟨C', hC', _⟩ := hp.part C _ hC
  exact ⟨C', hC'⟩
/-- What the block is when some of its cells were turned: one slot, and some of the others. -/
theorem WB.turn {P : Nat → Prop} {R : Option Nat} (h : WB w b t base fr db md sv rd) (hp : PrtR b R P w w') {s0 base' fr' db' md' : Nat} {cs : Array Value} {rd' : Value} (hP : ∀ j, P j → j = 1 ∨ j = 2 ∨ j = 3 ∨ j = 4 ∨ j = 165 ∨ Sl5 (5 + s0 * 5) j)
    (c1 : w'.cell? ⟨b, 1, none⟩ = some (.int .u32 (base' : Nat))) (c2 : w'.cell? ⟨b, 2, none⟩ = some (.int .i64 (fr' : Nat))) (c3 : w'.cell? ⟨b, 3, none⟩ = some (.int .i64 (db' : Nat))) (c4 : w'.cell? ⟨b, 4, none⟩ = some (.int .i64 (md' : Nat))) (c165 : w'.cell? ⟨b, 165, none⟩ = some rd') (hs0 : s0 < 32) (hl : Lies w' b (5 + s0 * 5) cs) (hcs : cs.size = 5) :
    WB w' b t base' fr' db' md' (fun s => if s = s0 then cs else sv s) rd' := by
  obtain ⟨C, hC, h⟩ := h
  obtain ⟨C', hC', hsz, hg⟩ := hp.part C _ hC
  refine ⟨C', hC', hsz.trans h.size, (hg 0 (fun hj => ?_)).trans h.c0, (cell_of18 hC' 1).symm.trans c1, (cell_of18 hC' 2).symm.trans c2, (cell_of18 hC' 3).symm.trans c3, (cell_of18 hC' 4).symm.trans c4, (cell_of18 hC' 165).symm.trans c165, fun s hs => ?_⟩
  · have := hP 0 hj
    unfold Sl5 at this
    omega
  · by_cases e : s = s0
    · subst e
      simp only [if_true]
      refine ⟨hcs, fun j hj => ?_⟩
      rw [← cell_of18 hC']
      exact hl.cell j (by omega)
    · simp only [if_neg e]
      obtain ⟨g1, g2⟩ := h.slot s hs
      refine ⟨g1, fun j hj => (hg _ (fun hj2 => ?_)).trans (g2 j hj)⟩
      have := hP _ hj2
      unfold Sl5 at this
      omega
end
/-- The block of what stands at a place of a slot. -/
def blkAt (cs : Array Value) (i : Nat) : Option Nat := (cs[i]?).bind Value.ownBlock
/-- What a slot's cells are, of a group's part; raw: enough have come, but they aren't inputs yet. -/
def SlotIs (w : World) (base : Nat) (raw : Bool) (op : Option Pt) (cs : Array Value) : Prop :=
  (op = none ∧ cs = #[.int .u32 0, .int .i64 0, .int .i64 0, .slice none 0 0, .slice none 0 0]) ∨
  (∃ p g, op = some p ∧ p.full ∧ raw = false ∧ cs = #[.int .u32 (p.fst : Nat), .int .i64 (p.k : Nat), .int .i64 (p.m : Nat), .slice none 0 0, .slice (some ⟨g, 0, none⟩) p.k p.k] ∧ base ≤ g ∧ w.rowIs g 79 p.k (fun i => .int .u16 (p.ins.getD i 0))) ∨
  (∃ p A C, op = some p ∧ ¬ (p.full ∧ raw = false) ∧ cs = #[.int .u32 (p.fst : Nat), .int .i64 (p.k : Nat), .int .i64 (p.m : Nat), .slice A p.sh.length C, .slice none 0 0] ∧ ShO w base (fun _ => True) (.slice A p.sh.length C) p.sh)
theorem SlotIs.size {w : World} {base : Nat} {raw : Bool} {op : Option Pt} {cs : Array Value} (h : SlotIs w base raw op cs) : cs.size = 5 := by
  rcases h with ⟨_, rfl⟩ | ⟨p, g, _, _, _, rfl, _⟩ | ⟨p, A, C, _, _, rfl, _⟩ <;> rfl
theorem SlotIs.keep {w w' : World} {base : Nat} {raw : Bool} {op : Option Pt} {cs : Array Value} (h : SlotIs w base raw op cs) (h1 : ∀ g, blkAt cs 3 = some g → w'.heap[g]? = w.heap[g]?) (h2 : ∀ (g : Nat) (cur : Array Value), w.heap[g]? = some (.cells cur 5 (0, 0)) → w'.heap[g]? = w.heap[g]?) (h3 : ∀ g, blkAt cs 4 = some g → w'.heap[g]? = w.heap[g]?) : SlotIs w' base raw op cs := by
  rcases h with ⟨rfl, rfl⟩ | ⟨p, g, rfl, hf, hr, rfl, hb, hw⟩ | ⟨p, A, C, rfl, hn, rfl, hs⟩
  · exact .inl ⟨rfl, rfl⟩
  · exact .inr (.inl ⟨p, g, rfl, hf, hr, rfl, hb, World.rowIs.of_block hw (h3 g rfl)⟩)
  · exact .inr (.inr ⟨p, A, C, rfl, hn, rfl, hs.keep (fun g hg => h1 g hg) (fun g cur _ hc => h2 g cur hc)⟩)
theorem SlotIs.typ3 {w : World} {base : Nat} {raw : Bool} {op : Option Pt} {cs : Array Value} (h : SlotIs w base raw op cs) {g : Nat} (hg : blkAt cs 3 = some g) : base ≤ g ∧ g < w.heap.size ∧ Typ w g 111 := by
  rcases h with ⟨rfl, rfl⟩ | ⟨p, q, rfl, hf, hr, rfl, hb, hw⟩ | ⟨p, A, C, rfl, hn, rfl, hs⟩
  · cases hg
  · cases hg
  · obtain ⟨h1, h2, h3⟩ := hs.typ (show (Value.slice A p.sh.length C).ownBlock = some g from hg)
    exact ⟨h1, h2, h3⟩
theorem SlotIs.typ4 {w : World} {base : Nat} {raw : Bool} {op : Option Pt} {cs : Array Value} (h : SlotIs w base raw op cs) {g : Nat} (hg : blkAt cs 4 = some g) : base ≤ g ∧ g < w.heap.size ∧ Typ w g 79 := by
  rcases h with ⟨rfl, rfl⟩ | ⟨p, q, rfl, hf, hr, rfl, hb, hw⟩ | ⟨p, A, C, rfl, hn, rfl, hs⟩
  · cases hg
  · cases hg
    exact ⟨hb, World.rowIs.lt hw, rowIs_heap18 hw⟩
  · cases hg
/-- A window that stands for S; O: the blocks that its calls may turn; x: the slot that isn't settled. -/
structure CW (w : World) (b t base : Nat) (O : Nat → Prop) (x : Option Nat) (S : Wn) : Prop where
  tb : t < base
  bb : base ≤ b
  tab : IsTab w t
  own : ∀ k, O k → base ≤ k ∧ k < w.heap.size
  ob : O b
  ex : ∃ (sv : Nat → Array Value) (rd : Value), WB w b t S.base S.frames S.doubles S.mended sv rd ∧ OwnU w base rd S.ready.length S.ready ∧ (∀ g, rd.ownBlock = some g → O g) ∧
    (∀ s, s < 32 → SlotIs w base (x == some s) (S.slot s) (sv s)) ∧ (∀ s g, s < 32 → blkAt (sv s) 3 = some g → O g) ∧
    (∀ s s' g, s < 32 → s' < 32 → s ≠ s' → blkAt (sv s) 3 = some g → blkAt (sv s') 3 ≠ some g) ∧ (∀ s g, s < 32 → blkAt (sv s) 4 = some g → rd.ownBlock ≠ some g ∧ O g)
/-- What such a call may turn. -/
structure FrO (O : Nat → Prop) (w w' : World) : Prop where
  os : w'.os = w.os
  tape : w'.tape = w.tape
  output : w'.output = w.output
  size : w.heap.size ≤ w'.heap.size
  block : ∀ k, k < w.heap.size → ¬ O k → w'.heap[k]? = w.heap[k]?
/-- And what is new. -/
def OO (O : Nat → Prop) (w w' : World) (k : Nat) : Prop := O k ∨ (w.heap.size ≤ k ∧ k < w'.heap.size)
section
variable {w w' w'' : World} {b t base : Nat} {O : Nat → Prop} {x : Option Nat} {S : Wn}
theorem FrO.refl (O : Nat → Prop) (w : World) : FrO O w w := ⟨rfl, rfl, rfl, Nat.le_refl _, fun _ _ _ => rfl⟩
theorem FrO.of_below (h : Below w.heap.size w w') : FrO O w w' := ⟨h.os, h.tape, h.output, h.size, fun k hk _ => h.block k hk⟩
theorem FrO.trans (h : FrO O w w') (k : FrO (OO O w w') w' w'') : FrO O w w'' :=
  ⟨k.os.trans h.os, k.tape.trans h.tape, k.output.trans h.output, Nat.le_trans h.size k.size, fun i h1 h2 => (k.block i (Nat.lt_of_lt_of_le h1 h.size) (fun e => e.elim h2 (fun e => by omega))).trans (h.block i h1 h2)⟩
theorem FrO.bel (h : FrO O w w') {B : Nat} {w0 : World} (h0 : Below B w0 w) (hB : B ≤ w.heap.size) (hO : ∀ k, O k → B ≤ k) : Below B w0 w' :=
  ⟨h.os.trans h0.os, h.tape.trans h0.tape, h.output.trans h0.output, Nat.le_trans h0.size h.size, fun k hk => (h.block k (by omega) (fun e => by have := hO k e; omega)).trans (h0.block k hk)⟩
theorem CW.below (h : CW w b t base O x S) (hb : Below w.heap.size w w') : CW w' b t base O x S := by
  obtain ⟨sv, rd, h1, h2, h3, h4, h5, h6, h7⟩ := h.ex
  have hsz := hb.size
  refine ⟨h.tb, h.bb, h.tab.below hb (World.rowIs.lt h.tab), fun k hk => ⟨(h.own k hk).1, Nat.lt_of_lt_of_le (h.own k hk).2 hsz⟩, h.ob, sv, rd, h1.keep (hb.block b h1.typ.lt), h2.below hb (Nat.le_refl _), h3, fun s hs => ?_, h5, h6, h7⟩
  exact (h4 s hs).keep (fun g hg => hb.block g ((h4 s hs).typ3 hg).2.1) (fun g cur hc => hb.block g (Array.getElem?_eq_some_iff.1 hc).1) (fun g hg => hb.block g ((h4 s hs).typ4 hg).2.1)
theorem CW.more (h : CW w b t base O x S) {O' : Nat → Prop} (h1 : ∀ k, O k → O' k) (h2 : ∀ k, O' k → base ≤ k ∧ k < w.heap.size) : CW w b t base O' x S := by
  obtain ⟨sv, rd, a1, a2, a3, a4, a5, a6, a7⟩ := h.ex
  exact ⟨h.tb, h.bb, h.tab, h2, h1 _ h.ob, sv, rd, a1, a2, fun g hg => h1 g (a3 g hg), a4, fun s g hs hg => h1 g (a5 s g hs hg), a6, fun s g hs hg => ⟨(a7 s g hs hg).1, h1 g (a7 s g hs hg).2⟩⟩
/-- What it doesn't own may change. -/
theorem CW.keepO (h : CW w b t base O x S) (hs : w.heap.size ≤ w'.heap.size) (hO : ∀ k, O k → w'.heap[k]? = w.heap[k]?) (ht : w'.heap[t]? = w.heap[t]?) (hu : ∀ (g : Nat) (cur : Array Value), w.heap[g]? = some (.cells cur 5 (0, 0)) → w'.heap[g]? = w.heap[g]?) : CW w' b t base O x S := by
  obtain ⟨sv, rd, h1, h2, h3, h4, h5, h6, h7⟩ := h.ex
  exact ⟨h.tb, h.bb, h.tab.keep ht, fun k hk => ⟨(h.own k hk).1, Nat.lt_of_lt_of_le (h.own k hk).2 hs⟩, h.ob, sv, rd, h1.keep (hO b h.ob), OwnU.keep h2 (fun g hg => hO g (h3 g hg)), h3, fun s hs => (h4 s hs).keep (fun g hg => hO g (h5 s g hs hg)) hu (fun g hg => hO g (h7 s g hs hg).2), h5, h6, h7⟩
theorem CW.low (h : CW w b t base O x S) : base ≤ w.heap.size := by
  have := h.bb
  have := (h.own b h.ob).2
  omega
/-- Over a call that leaves it alone. -/
theorem CW.over (h : CW w b t base O x S) (hb : Below w.heap.size w w') : CW w' b t base (OO O w w') x S :=
  (h.below hb).more (fun _ hk => .inl hk) (fun k hk => by
    rcases hk with hk | hk
    · exact ⟨(h.own k hk).1, Nat.lt_of_lt_of_le (h.own k hk).2 hb.size⟩
    · exact ⟨Nat.le_trans h.low hk.1, hk.2⟩)
end
end Go.Proofs.Ytjcbcdjfhcnhcaa
namespace Go.Proofs.Ytjcbcdjfhcnhcaa
open Go.RowKit
theorem Wn.turn_slot {S : Wn} {p : Pt} {n : Nat} (h : S.ok n) (hp : S.next = some p) {s : Nat} (hs : s < 32) : (S.turn p).slot s = if s = S.base % 32 then none else S.slot s := by
  have hnum : (S.turn p).num s = S.base + 1 + (s + 32 - (S.base + 1) % 32) % 32 := rfl
  unfold Wn.slot
  rw [Wn.turn_of h hp, hnum]
  by_cases e : s = S.base % 32
  · rw [if_pos e, if_neg (by omega)]
    cases h2 : S.of (S.base + 1 + (s + 32 - (S.base + 1) % 32) % 32) with
    | none => rfl
    | some q =>
      obtain ⟨h3, h4, _⟩ := Wn.of_some h2
      have := (h.parts q h4).2.2
      omega
  · rw [if_neg e, if_neg (by omega)]
    have : S.base + 1 + (s + 32 - (S.base + 1) % 32) % 32 = S.num s := by unfold Wn.num; omega
    rw [this]
theorem Wn.slot_base (S : Wn) : S.slot (S.base % 32) = S.of S.base := by
  unfold Wn.slot
  rw [Wn.num_of (Nat.le_refl _) (by omega)]
/-- The cells that telling turns. -/
def TellP (o j : Nat) : Prop := j = 1 ∨ j = 2 ∨ j = 165 ∨ Sl5 o j
/-- A group's inputs are told: what the window is then. -/
theorem CW.turned {w w' : World} {b t base n : Nat} {O : Nat → Prop} {S : Wn} {p : Pt} (h : CW w b t base O none S) (hS : S.ok n) (hp : S.next = some p) {sv : Nat → Array Value} {rd rd' : Value}
    (h1 : WB w b t S.base S.frames S.doubles S.mended sv rd) (h2 : OwnU w base rd S.ready.length S.ready) (h3 : ∀ g, rd.ownBlock = some g → O g) (h4 : ∀ s, s < 32 → SlotIs w base (none == some s) (S.slot s) (sv s)) (h5 : ∀ s g, s < 32 → blkAt (sv s) 3 = some g → O g) (h6 : ∀ s s' g, s < 32 → s' < 32 → s ≠ s' → blkAt (sv s) 3 = some g → blkAt (sv s') 3 ≠ some g) (h7 : ∀ s g, s < 32 → blkAt (sv s) 4 = some g → rd.ownBlock ≠ some g ∧ O g)
    (hP : PrtR b rd.ownBlock (TellP (5 + S.base % 32 * 5)) w w') (c1 : w'.cell? ⟨b, 1, none⟩ = some (.int .u32 ((S.base + 1 : Nat) : Int))) (c2 : w'.cell? ⟨b, 2, none⟩ = some (.int .i64 ((S.frames + p.k : Nat) : Int))) (c165 : w'.cell? ⟨b, 165, none⟩ = some rd') (hl : Lies w' b (5 + S.base % 32 * 5) #[.int .u32 0, .int .i64 0, .int .i64 0, .slice none 0 0, .slice none 0 0])
    (ho : OwnU w' base rd' (S.ready.length + p.k) (S.ready ++ p.ins)) (hr : rd'.ownBlock = rd.ownBlock ∨ ∃ q, rd'.ownBlock = some q ∧ w.heap.size ≤ q) :
    CW w' b t base (OO O w w') none (S.turn p) ∧ FrO O w w' := by
  have hTb := h1.typ
  have hty : ∀ g, rd.ownBlock = some g → Typ w g 79 := fun g hg => by
    obtain ⟨_, _, h⟩ := row_type h2 hg
    exact h
  have keep : ∀ {g : Nat} {T : TypeId}, Typ w g T → T ≠ 105 → rd.ownBlock ≠ some g → w'.heap[g]? = w.heap[g]? := fun {g T} hg hT hne => hP.block g hg.lt (Typ.ne hg hTb hT) (fun e => hne e.symm)
  have hc := h1.cells
  refine ⟨⟨h.tb, h.bb, ?_, fun k hk => ?_, .inl h.ob, fun s => if s = S.base % 32 then #[.int .u32 0, .int .i64 0, .int .i64 0, .slice none 0 0, .slice none 0 0] else sv s, rd', ?_, ?_, fun g hg => ?_, fun s hs => ?_, fun s g hs hg => ?_, fun s s' g hs hs' hne hg => ?_, fun s g hs hg => ?_⟩, hP.os, hP.tape, hP.output, hP.size, fun k hk hno => ?_⟩
  · refine h.tab.keep (hP.block t (World.rowIs.lt h.tab) (by have := h.tb; have := h.bb; omega) (fun e => ?_))
    have := (row_type h2 e.symm).1
    have := h.tb
    omega
  · rcases hk with hk | hk
    · exact ⟨(h.own k hk).1, Nat.lt_of_lt_of_le (h.own k hk).2 hP.size⟩
    · exact ⟨Nat.le_trans h.low hk.1, hk.2⟩
  · refine h1.turn hP (fun j hj => ?_) c1 c2 (hP.cell hTb hc.2.2.2.1 ?_) (hP.cell hTb hc.2.2.2.2.1 ?_) c165 (by omega) hl rfl
    · rcases hj with h | h | h | h
      · exact .inl h
      · exact .inr (.inl h)
      · exact .inr (.inr (.inr (.inr (.inl h))))
      · exact .inr (.inr (.inr (.inr (.inr h))))
    · unfold TellP Sl5; omega
    · unfold TellP Sl5; omega
  · show OwnU w' base rd' (S.ready ++ p.ins).length (S.ready ++ p.ins)
    rw [List.length_append, Pt.ins_len]
    exact ho
  · rcases hr with hr | ⟨q, hq, hq2⟩
    · rw [hr] at hg; exact .inl (h3 g hg)
    · rw [hq] at hg
      cases hg
      exact .inr ⟨hq2, (row_type ho hq).2.1⟩
  · rw [Wn.turn_slot hS hp hs]
    by_cases e : s = S.base % 32
    · simp only [if_pos e]
      exact .inl ⟨rfl, rfl⟩
    · simp only [if_neg e]
      have hi := h4 s hs
      refine hi.keep (fun g hg => keep (hi.typ3 hg).2.2 (by decide) (fun e2 => (Typ.ne (hi.typ3 hg).2.2 (hty g e2) (by decide)) rfl)) (fun g cur hcur => keep ⟨cur, hcur⟩ (by decide) (fun e2 => (Typ.ne ⟨cur, hcur⟩ (hty g e2) (by decide)) rfl)) (fun g hg => keep (hi.typ4 hg).2.2 (by decide) (h7 s g hs hg).1)
  · dsimp only at hg
    by_cases e : s = S.base % 32
    · rw [if_pos e] at hg; cases hg
    · rw [if_neg e] at hg; exact .inl (h5 s g hs hg)
  · dsimp only at hg ⊢
    by_cases e : s = S.base % 32
    · rw [if_pos e] at hg; cases hg
    · rw [if_neg e] at hg
      by_cases e' : s' = S.base % 32
      · rw [if_pos e']; intro h; cases h
      · rw [if_neg e']; exact h6 s s' g hs hs' hne hg
  · dsimp only at hg
    by_cases e : s = S.base % 32
    · rw [if_pos e] at hg; cases hg
    · rw [if_neg e] at hg
      refine ⟨?_, .inl (h7 s g hs hg).2⟩
      rcases hr with hr | ⟨q, hq, hq2⟩
      · rw [hr]; exact (h7 s g hs hg).1
      · rw [hq]
        intro e2
        cases e2
        have := ((h4 s hs).typ4 hg).2.1
        omega
  · exact hP.block k hk (fun e => hno (by rw [e]; exact h.ob)) (fun e => hno (h3 k e.symm))
end Go.Proofs.Ytjcbcdjfhcnhcaa
