/-
  Own text: Eval, walked.
-/
import Derived.Test.YtbiaenkhhbgbcaaRefC
import Derived.Test.YtbiaenkhhbgbcaaGfG
namespace Go.Proofs.Ytbiaenkhhbgbcaa
open Go.RowKit Go.Shelf
attribute [local go_sem] Oper.semAt_some

theorem keeps_below {W W' : World} (h : Below W.heap.size W W') : KeepsOthers W W' :=
  ⟨h.size, fun k o hk _ => (h.block k (Array.getElem?_eq_some_iff.1 hk).1).trans hk⟩
/-- Horner's rule along places. -/
def hor (x : Nat) (f : Nat → Nat) (ps : List Nat) : Nat := ps.foldl (fun s j => gm s x ^^^ f j) 0
theorem hor_snoc (x : Nat) (f : Nat → Nat) (ps : List Nat) (j : Nat) : hor x f (ps ++ [j]) = gm (hor x f ps) x ^^^ f j := by simp [hor]
theorem hor_lt {x : Nat} (hx : x < 256) {f : Nat → Nat} (hf : ∀ i, f i < 256) (ps : List Nat) : hor x f ps < 256 := by
  have aux : ∀ (ps : List Nat) (s : Nat), s < 256 → ps.foldl (fun s j => gm s x ^^^ f j) s < 256 := by
    intro ps
    induction ps with
    | nil => exact fun s hs => hs
    | cons j ps ih => exact fun s hs => ih _ (xor_lt (gm_lt hs hx) (hf j))
  exact aux ps 0 (by omega)
theorem hor_down {x : Nat} (hx : x < 256) {f : Nat → Nat} (hf : ∀ i, f i < 256) (N : Nat) : ∀ k, k ≤ N → hor x f (down N k) = ev x (fun i => f (N - k + i)) k
  | 0, _ => rfl
  | k + 1, h => by
    have ih := hor_down hx hf N k (by omega)
    have hl : ev x (fun i => f (N - k + i)) k < 256 := ev_lt x _ (fun i => hf _) k
    rw [down_succ, hor_snoc, ih, ev_down x f N k (by omega), ← mu_eq hl hx, mu_comm, Nat.xor_comm, show N - 1 - k = N - (k + 1) by omega]
theorem hor_all {x : Nat} (hx : x < 256) {l : List Int} (h : By l) : hor x (co l) (down l.length l.length) = evL x l := by
  rw [hor_down hx h.lt _ _ (Nat.le_refl _)]
  unfold evL
  rw [Nat.sub_self]
  exact ev_congr x _ (fun i _ => by show co l (0 + i) = co l i; rw [Nat.zero_add])
/-- What holds between two rounds. -/
def EvI (R x : Nat) (f : Nat → Nat) (T : Value) {m : Nat} {V : Nat → Int → Prop} (pre : List (Spot m V)) (W : World) : Prop :=
  Boxed W R 25 T ∧ Boxed W (R + 1) 5 (.int .u8 x) ∧ Boxed W (R + 2) 5 (.int .u8 (hor x f (placesOf pre)))
theorem EvI.own {R x : Nat} {f : Nat → Nat} {T : Value} {m : Nat} {V : Nat → Int → Prop} : Own (fun (pre : List (Spot m V)) W => EvI R x f T pre W) := by
  rintro s A B row ⟨h1, h2, h3⟩ hg hr
  have key : ∀ {b : Nat} {t : TypeId} {v : Value}, Boxed A b t v → Boxed B b t v := fun {b t v} h => h.kept hg (fun e => by
    obtain ⟨o, ho, hc⟩ := hr b e.symm
    rw [show A.heap[b]? = _ from h] at ho; cases ho; cases hc)
  exact ⟨key h1, key h2, key h3⟩
theorem EvI.step {R x : Nat} {f : Nat → Nat} {T : Value} {m : Nat} {V : Nat → Int → Prop} {pre : List (Spot m V)} {W W' : World} (h : EvI R x f T pre W) (p : Spot m V) (hb : Below W.heap.size W W') (v : Value) (hv : v = .int .u8 (hor x f (placesOf pre ++ [p.1.1]))) :
    EvI R x f T (pre ++ [p]) (W'.setCell ⟨R + 2, 0, none⟩ v) := by
  obtain ⟨h1, h2, h3⟩ := h
  have key : ∀ {b : Nat} {t : TypeId} {v : Value}, Boxed W b t v → Boxed W' b t v := fun {b t v} h => (hb.block b h.lt).trans h
  refine ⟨(key h1).kept (grownBy_setCell' _ _ _) (by simp), (key h2).kept (grownBy_setCell' _ _ _) (by simp), ?_⟩
  rw [placesOf_snoc, ← hv]
  exact (key h3).set v
set_option maxRecDepth 100000 in
set_option maxHeartbeats 2000000 in
theorem eval_any (t : Nat) (a : Option Addr) (len cap : Nat) (l : List Int) (x : Nat) (hx : x < 256) (w : World) (ht : IsTab w t) (hl : Bytes w a len l) :
    Calls Try.prog 21 #[.pointer (some ⟨t, 0, none⟩), .slice a len cap, .int .u8 x] w fun e W' => e = .returned (.int .u8 (evL x l)) ∧ Below w.heap.size w W' := by
  refine (callsIn_wide (n := 3)).1 ?_
  have hro : Fence.wide.round = none := rfl
  have hlen := hl.size
  have hmax := hl.max
  have bl : By l := hl.range
  have htl := ht.lt
  obtain ⟨b, off, hA, hb, hS⟩ : ∃ b off, ((Value.slice a len cap) = .slice (some ⟨b, off, none⟩) len cap ∨ (len = 0 ∧ ∃ A, (Value.slice a len cap) = .slice A 0 cap)) ∧ (len = 0 ∨ b < w.heap.size) ∧ Spots (fun j z => z = (co l j : Int)) b off len w := by
    rcases hl.cell with h | ⟨_, b, off, rfl, hb, hc⟩
    · subst h; exact ⟨0, 0, .inr ⟨rfl, a, rfl⟩, .inl rfl, fun j hj => by omega⟩
    · exact ⟨b, off, .inl rfl, .inr hb, fun j hj => ⟨_, rfl, by rw [← bl.get]; exact hc j hj⟩⟩
  have HT := Lib.hid ht
  have HBL := Lib.hid bl
  have HE := Lib.hid (hor_all hx bl)
  rw [hlen] at HE
  have hhl : ∀ ps, hor x (co l) ps < 256 := fun ps => hor_lt hx bl.lt ps
  have HHL := Lib.hid hhl
  clear ht hl bl hhl
  refine callsIn_of_wp_marks Try.func21 rfl trivial ?_ hro
  simp only [Try.ntmps21, List.size_toArray, List.length_cons, List.length_nil, Nat.reduceAdd, Nat.reduceSub, Array.replicate_succ, Array.replicate_zero, List.push_toArray, List.append_toArray, List.nil_append, List.cons_append]
  gi_wp2_with (refine ⟨trivial, ?_⟩; gi_at_call 32; refine (back_in Fence.wide 2 trivial hro _ _ _ _).mono ?_; rintro e w' ⟨rfl, rfl⟩)
  have b1 := Boxed.new w 25 (.pointer (some ⟨t, 0, none⟩))
  have b2 := Boxed.new (w.alloc (.cells #[.pointer (some ⟨t, 0, none⟩)] 25)) 5 (.int .u8 x)
  have b3 := Boxed.new ((w.alloc (.cells #[.pointer (some ⟨t, 0, none⟩)] 25)).alloc (.cells #[.int .u8 x] 5)) 5 (.int .u8 0)
  have b4 := Boxed.new (((w.alloc (.cells #[.pointer (some ⟨t, 0, none⟩)] 25)).alloc (.cells #[.int .u8 x] 5)).alloc (.cells #[.int .u8 0] 5)) 22 (.slice a len cap)
  simp only [World.size_alloc] at b2 b3 b4
  have hB0 : Below w.heap.size w ((((w.alloc (.cells #[.pointer (some ⟨t, 0, none⟩)] 25)).alloc (.cells #[.int .u8 x] 5)).alloc (.cells #[.int .u8 0] 5)).alloc (.cells #[.slice a len cap] 22)) :=
    ((((Below.refl _ w).alloc (Nat.le_refl _) _).alloc (by simp) _).alloc (by simp; omega) _).alloc (by simp; omega) _
  refine wpIn_rangeFunc_ownG hro (by omega) (gf := 37) (lb := #[.pointer (some ⟨w.heap.size + 1 + 1 + 1, 0, none⟩)]) rfl trivial (enters_of Try.func37 (by kernel_rfl) rfl)
    (back_stops Fence.wide 2 trivial hro (by omega) (w.heap.size + 1 + 1 + 1) b off len cap (fun j z => z = (co l j : Int)) hmax (.slice a len cap) hA _ (by simp) (by simp; omega) b4.cell (fun j hj => by
      obtain ⟨z, hz, hc⟩ := hS j hj
      exact ⟨z, hz, (hB0.cell (p := ⟨b, off + j, none⟩) (by show b < _; omega)).trans hc⟩))
    Kp.trans' (fun W l o o' _ h2 h3 _ => Kp.obj W l o o' h2 h3) (Below.refl _ _) (fun _ => rfl)
    (fun pre W => EvI w.heap.size x (co l) (.pointer (some ⟨t, 0, none⟩)) pre W ∧ Below w.heap.size w W)
    (fun c pre W => False)
    (OwnFrom.and (Own.from EvI.own _) (ownFrom_below (Nat.le_refl _) (by simp; omega)))
    (fun c _ _ _ _ hs _ _ => hs)
    ⟨⟨((b1.alloc _).alloc _).alloc _, (b2.alloc _).alloc _, b3.alloc _⟩, hB0⟩
    (fun p => { tmps := #[.pointer (some ⟨t, 0, none⟩), .slice a len cap, .int .u8 x, .pointer (some ⟨w.heap.size, 0, none⟩), undef, .pointer (some ⟨w.heap.size + 1, 0, none⟩), .int .u8 0, .pointer (some ⟨w.heap.size + 1 + 1, 0, none⟩), undef, .int .u8 p.1.2, .slice a len cap, .func (.func 37) #[] #[.pointer (some ⟨w.heap.size + 1 + 1 + 1, 0, none⟩)], .int .i64 (p.1.1 : Int), .int .u8 p.1.2, undef, undef, undef, undef, undef, undef, undef, undef], defers := [] }) ?assign ?body ?done ?stop
  case assign =>
    intro l x W K hK
    gi_wp2
    exact hK
  case body =>
    rintro l0 pre p W ⟨hI, hB⟩ _
    have hp := p.2.2
    dsimp only at hp
    rw [hp]
    have hq := HHL.out (placesOf pre)
    have hcx := HBL.out.lt p.1.1
    have hsn := hor_snoc x (co l) (placesOf pre) p.1.1
    obtain ⟨hb1, hb2, hb3⟩ := id hI
    have c1 := hb1.cell
    have c2 := hb2.cell
    have c3 := hb3.cell
    have f3 := hb3.frozen
    have HBX : Hid (∀ q o, Boxed ((W.drewN q).alloc o) (w.heap.size + 1 + 1) 5 (.int .u8 (hor x (co l) (placesOf pre)))) := Lib.hid (fun q o => Boxed.alloc (show Boxed (W.drewN q) _ _ _ from hb3) o)
    have HI := Lib.hid hI
    have HB := Lib.hid hB
    have HT1 := Lib.hid (HT.out.below hB htl)
    clear hI hB hb1 hb2 hb3 hp
    generalize co l p.1.1 = cf at *
    obtain ⟨s, hs⟩ : ∃ s, s = hor x (co l) (placesOf pre) := ⟨_, rfl⟩
    rw [← hs] at hq hsn c3 HBX
    have HSN := Lib.hid hsn
    have HSS := Lib.hid hs
    clear hs
    have CM := Lib.hid (fun w h => mul_any t s x (by omega) hx w h)
    have hg := gm_lt (a := s) (b := x) (by omega) hx
    clear hsn
    generalize gm s x = g at *
    have CA := Lib.hid (fun w => add_block [(g : Int), (cf : Int)] #[.int .u8 (g : Int), .int .u8 (cf : Int)] rfl (fun z hz => by simp at hz; omega) 2 rfl (by omega) (g ^^^ cf) (by simp [xorL]) w 2)
    have h1 : 1 ≤ 3 - 1 - 1 := by omega
    gi_wp2_with (first
      | (refine ⟨trivial, ?_⟩; gi_at_call 33; refine (CallsIn.inRound l0 (callsIn_wide.2 (CM.out _ HT1.out))).mono ?_; rintro e W2 ⟨rfl, q, rfl⟩)
      | (refine ⟨trivial, ?_⟩; gi_at_call 30; refine (CallsIn.inRound l0 (callsIn_wide.2 (CA.out _))).mono ?_; rintro e W3 ⟨rfl, rfl⟩; have c9 := (HBX.out q (.cells #[.int .u8 (g : Int), .int .u8 (cf : Int)] 5)).cell; have f9 := (HBX.out q (.cells #[.int .u8 (g : Int), .int .u8 (cf : Int)] 5)).frozen))
    have hb2 : Below W.heap.size W ((W.drewN q).alloc (.cells #[.int .u8 (g : Int), .int .u8 (cf : Int)] 5)) := (below_drewN (Below.refl _ W) q).alloc (Nat.le_refl _) _
    have hb3 : Below w.heap.size w ((W.drewN q).alloc (.cells #[.int .u8 (g : Int), .int .u8 (cf : Int)] 5)) := HB.out.trans (hb2.mono HB.out.size)
    exact ⟨((keeps_below hb2).trans (KeepsOthers.setCell _ _ _)).from _, (Kp.all hb2).trans' (Kp.set (p := ⟨w.heap.size + 1 + 1, 0, none⟩) (by simp) (by show _ ∨ b ≠ w.heap.size + 1 + 1; omega) _), HI.out.step p hb2 _ (by rw [HSN.out]), hb3.setCell (p := ⟨w.heap.size + 1 + 1, 0, none⟩) (by simp; omega) _⟩
  case done =>
    rintro D ys W hD hys ⟨hI, hB⟩ hK
    obtain ⟨hb1, hb2, hb3⟩ := id hI
    rw [show placesOf ys = down len len from hys, HE.out] at hb3
    have c3 := hb3.cell
    gi_wp2
    refine ⟨by simp, .inl ⟨_, _, rfl, run_takeDeferred hK, ?_⟩⟩
    exact ⟨_, results_tmp rfl _ _ _, rfl, hB.trans (belowK_b (w := w) (Nat.le_refl _) W D _ _ (by simp at hD; omega) hK rfl rfl)⟩
  case stop =>
    rintro D c pre W _ _ h _
    exact h.elim
end Go.Proofs.Ytbiaenkhhbgbcaa
