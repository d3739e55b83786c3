/-
  Own text: law PrioDrops, walked.
-/
import Derived.Test.YtagcpnelobidnaaPqDrA
import Derived.Test.YtagcpnelobidnaaRoundQ
import Derived.Sort.CutIn
namespace Go.Proofs.Ytagcpnelobidnaa
open Go.RowKit Go.Shelf
attribute [local go_sem] Oper.semAt_some

theorem keeps_below10 {W W' : World} (h : Below W.heap.size W W') : KeepsOthers W W' :=
  ⟨h.size, fun k _ hk _ => (h.block k (Array.getElem?_eq_some_iff.1 hk).1).trans hk⟩
/-- The law's boxes and queues, behind the push. -/
structure Dr (B b : Nat) (Q' : Qn) (A : Option Addr) (C : Nat) (D : Option Addr) (m C2 : Nat) (L : List DI) (room c8 c11 : Nat) (gb : Bool) (W : World) : Prop where
  two : Two W B b Q' A C D m C2 L
  box : DBx W c8 room (.slice D m C2)
  flag : Boxed W c11 4 (.bool gb)
theorem Dr.below {B b : Nat} {Q' : Qn} {A : Option Addr} {C : Nat} {D : Option Addr} {m C2 : Nat} {L : List DI} {room c8 c11 : Nat} {gb : Bool} {W W' : World} (h : Dr B b Q' A C D m C2 L room c8 c11 gb W) (hb : Below W.heap.size W W') : Dr B b Q' A C D m C2 L room c8 c11 gb W' :=
  ⟨h.two.below hb, h.box.below hb h.box.lt, (hb.block _ (Array.getElem?_eq_some_iff.1 h.flag).1).trans h.flag⟩
set_option maxRecDepth 100000 in
set_option maxHeartbeats 4000000 in
theorem drops10_go (room : Nat) (h1 : 1 ≤ room) (h2 : room ≤ 40) (a : Option Addr) (n c : Nat) (hn : n ≤ 80) (K N V : Nat → Int) (rk : Int) (w : World) (ho : Ops w a n K N V) :
    Calls Try.prog 6 #[.int .i64 (room : Int), .slice a n c, .int .i64 rk] w (Yes10 w) := by
  refine (callsIn_wide (n := 3)).1 ?_
  have hro : Fence.wide.round = none := rfl
  obtain ⟨W, hW⟩ : ∃ W, W = (w.alloc (.cells #[.int .i64 rk] 3)).alloc (.cells #[.bool false] 4) := ⟨_, rfl⟩
  have hs : W.heap.size = w.heap.size + 2 := by rw [hW]; simp
  have hb : Below w.heap.size w W := by rw [hW]; exact ((Below.refl w.heap.size w).alloc (Nat.le_refl _) _).alloc (by simp) _
  have hx : Boxed W (w.heap.size + 1) 4 (.bool false) := by
    rw [hW]
    have := Boxed.new (w.alloc (.cells #[.int .i64 rk] 3)) 4 (.bool false)
    simpa using this
  have hk : Boxed W w.heap.size 3 (.int .i64 rk) := by
    rw [hW]
    exact (Below.heap_alloc _ _ _ (by simp)).trans (Boxed.new w 3 (.int .i64 rk))
  have HALL : Hid (∀ w', Below W.heap.size W w' → Boxed w' w.heap.size 3 (.int .i64 rk) ∧ Boxed w' (w.heap.size + 1) 4 (.bool false) ∧ Below w.heap.size w w') := Lib.hid (fun w' h => ⟨(h.block _ (by omega)).trans hk, (h.block _ (by omega)).trans hx, hb.trans (h.mono (by omega))⟩)
  have CP := Lib.hid (fun w1 (hb1 : Below W.heap.size W w1) => played10_any room h1 h2 a n c hn K N V w1 (ho.below (hb.trans (hb1.mono (by omega))) (Nat.le_refl _)))
  have HW := Lib.hid hW
  have HS := Lib.hid hs
  have HRM : Hid (1 ≤ room ∧ room ≤ 40) := Lib.hid ⟨h1, h2⟩
  have k40 : (room : Int) ≤ 40 := by omega
  clear hW hs hb hx hk h1 h2 hn ho
  refine callsIn_of_wp_marks Try.func6 rfl trivial ?_ hro
  simp only [Try.ntmps6, List.size_toArray, List.length_cons, List.length_nil, Nat.reduceAdd, Nat.reduceSub, Array.replicate_succ, Array.replicate_zero, List.push_toArray, List.append_toArray, List.nil_append, List.cons_append]
  rw [wpIn_wide]
  go_upto_region 1 with fail
  rw [← HW.out]
  clear HW
  go_upto_region 4 with (first
    | (go_at_call 7; (refine (awake10_any _).mono ?_); rintro e w1 ⟨rfl, hb1⟩; have HB1 := Lib.hid hb1; clear hb1)
    | (go_at_call 8; (with_reducible refine (CP.out _ HB1.out).mono ?_); rintro e w2 ⟨b, Q, D, m, C2, rfl, HF, HN⟩; unfold DV)
    | fail)
  obtain ⟨W3, hW3⟩ : ∃ W3, W3 = w2.alloc (.cells #[.int .i64 (room : Int), .slice D m C2] 27) := ⟨_, rfl⟩
  rw [← hW3]
  obtain ⟨A, C, two2, bel2⟩ := HN.out
  have ha3 : Below w2.heap.size w2 W3 := by rw [hW3]; exact (Below.refl _ _).alloc (Nat.le_refl _) _
  have HT3 := Lib.hid (two2.below ha3)
  have HX3 : Hid (DBx W3 w2.heap.size room (.slice D m C2)) := Lib.hid (by rw [hW3]; exact DBx.new w2 room _)
  have HB3 : Hid (Below W.heap.size W W3) := Lib.hid ((HB1.out.trans (bel2.mono HB1.out.size)).trans (ha3.mono (Nat.le_trans HB1.out.size bel2.size)))
  have HM : Hid (m = Q.l.length) := Lib.hid (by have := two2.dl.len; rw [List.length_map] at this; exact this.symm)
  have HSZ : Hid (W.heap.size ≤ w1.heap.size + 2) := Lib.hid (by have := HB1.out.size; omega)
  obtain ⟨gb, hgb⟩ : ∃ gb, gb = decide (Q.room ≤ Q.l.length) := ⟨_, rfl⟩
  have CU := Lib.hid (push_any rk 1 b 80 Q A C HF.out.1 (by omega) W3 HT3.out.qb)
  rw [← hgb] at CU
  have HGB := Lib.hid hgb
  generalize hgn : Q.gone rk 1 = gn at *
  obtain ⟨r3, _, _⟩ := HALL.out W3 HB3.out
  have c5 := r3.cell
  generalize w2.heap.size = c8 at *
  clear hW3 two2 bel2 ha3 CP HN hgb hgn r3
  go_upto_region 7 with (first
    | (go_at_call 13; (with_reducible refine (CU.out).mono ?_); rintro e w4 ⟨rfl, HQ4⟩; obtain ⟨A4, C4, t4, b4, f4, _⟩ := HT3.out.code HQ4.out; have HX4 := Lib.hid (HX3.out.keep (f4.keeps HT3.out.qb HX3.out (by decide) (by decide))); have HT4 := Lib.hid t4; have HB4 := Lib.hid (HB3.out.trans (b4.mono HSZ.out)); clear t4 b4 f4)
    | fail)
  obtain ⟨W5, hW5⟩ : ∃ W5, W5 = w4.alloc (.cells #[.bool gb] 4) := ⟨_, rfl⟩
  rw [← hW5]
  have ha5 : Below w4.heap.size w4 W5 := by rw [hW5]; exact (Below.refl _ _).alloc (Nat.le_refl _) _
  have HB5 : Hid (Below W.heap.size W W5) := Lib.hid (HB4.out.trans (ha5.mono HB4.out.size))
  have HD5 : Hid (Dr (w1.heap.size + 2) b (Q.push rk 1) A4 C4 D m C2 (Q.l.map It.di) room c8 w4.heap.size gb W5) := Lib.hid ⟨HT4.out.below ha5, HX4.out.below ha5 HX4.out.lt, by rw [hW5]; exact Boxed.new w4 4 (.bool gb)⟩
  generalize w4.heap.size = c11 at *
  have HALL5 : Hid (∀ w', Below W5.heap.size W5 w' → Dr (w1.heap.size + 2) b (Q.push rk 1) A4 C4 D m C2 (Q.l.map It.di) room c8 c11 gb w' ∧ Boxed w' w.heap.size 3 (.int .i64 rk) ∧ Boxed w' (w.heap.size + 1) 4 (.bool false) ∧ Below w.heap.size w w') := Lib.hid (fun w' h => ⟨HD5.out.below h, HALL.out w' (HB5.out.trans (h.mono HB5.out.size))⟩)
  have HFP : Hid ((Q.push rk 1).fit 81 ∧ (Q.push rk 1).room = room) := Lib.hid ⟨Qn.push_fit HF.out.1 rk 1, HF.out.2⟩
  have HLE : Hid (gb = true → ∃ k, m = k + 1 ∧ ∀ y ∈ (Q.push rk 1).l, y.rank ≤ rk ∨ y.rank ≤ (itAt Q.l k).rank) := Lib.hid (fun hg => by
    have h1 : Q.room ≤ Q.l.length := by
      rw [HGB.out] at hg
      simpa using hg
    have h2 := HF.out.1.lo
    have h3 := HM.out
    exact ⟨m - 1, by omega, fun y hy => drops_le HF.out.1 rk 1 (m - 1) (by omega) y hy⟩)
  have kb : ((m : Int) == (room : Int)) = gb := by
    have h1 := HF.out.1.len
    have h2 := HF.out.2
    have h3 := HM.out
    rw [HGB.out]
    by_cases h4 : Q.room ≤ Q.l.length
    · have h5 : (m : Int) = (room : Int) := by omega
      simp [h4, h5]
    · have h5 : ¬ (m : Int) = (room : Int) := by omega
      simp [h4, h5]
  have kb2 : (gb != gb) = false := by simp
  clear HGB HALL HT3 HX3 HB3 HX4 HT4 HB4 CU HQ4 c5 ha5 hW5
  generalize hQ2 : Q.push rk 1 = Q2 at *
  obtain ⟨n2, hn2⟩ : ∃ n2, n2 = Q2.l.length := ⟨_, rfl⟩
  have hn3 : ¬ (room : Int) < (n2 : Int) := by
    have h1 := HFP.out.1.len
    have h2 := HFP.out.2
    omega
  have hn4 : n2 ≤ 1000 := by have := HFP.out.1.len; have := HFP.out.1.hi; omega
  have HN2 := Lib.hid hn2
  have HN4 := Lib.hid hn4
  have CL : Hid (∀ w', Below W5.heap.size W5 w' → Calls Try.prog 15 #[.pointer (some ⟨b, 0, none⟩)] w' fun e w'' => e = .returned (.int .i64 (n2 : Int)) ∧ w'' = w') := Lib.hid (fun w' h => (len_any A4 n2 C4 w' (by have := (HALL5.out w' h).1.two.qb.blk; rwa [← HN2.out] at this)).mono fun e w'' h2 => ⟨h2.1, h2.2.symm⟩)
  have CL2 : Hid (Calls Try.prog 15 #[.pointer (some ⟨b, 0, none⟩)] W5 fun e w'' => e = .returned (.int .i64 (n2 : Int)) ∧ Hid (Below W5.heap.size W5 w'')) := Lib.hid ((CL.out W5 (Below.refl _ _)).mono fun e w'' h => ⟨h.1, Lib.hid (by rw [h.2]; exact Below.refl _ _)⟩)
  have CA : Hid (∀ w', Below W5.heap.size W5 w' → Calls Try.prog 16 #[.pointer (some ⟨b, 0, none⟩)] w' (Iter Q2.l w')) := Lib.hid (fun w' h => all_any b Q2 A4 C4 (by have := HN2.out; have := HN4.out; omega) w' (HALL5.out w' h).1.two.qb)
  obtain ⟨hd5, _, _, _⟩ := HALL5.out W5 (Below.refl _ _)
  obtain ⟨x0, x1⟩ := hd5.box.cells
  have f11 := hd5.flag.cell
  clear hd5 hn2
  go_wp2_with (first
    | (go_at_call 15; (with_reducible refine (CL2.out).mono ?_); rintro e w7 ⟨rfl, HB7⟩)
    | (go_at_call 16; (with_reducible refine (CA.out _ HB7.out).mono ?_); rintro e w8 ⟨p, A8, C8, rfl, HP8, HO8, HB8⟩; have fnp := func_nil10 25 p)
    | fail)
  have b8 : Below W5.heap.size W5 w8 := HB7.out.trans (HB8.out.mono HB7.out.size)
  have hp8 : w8.cell? ⟨p, 0, none⟩ = some (.slice A8 n2 C8) := by rw [HN2.out]; exact HP8.out
  have ho8 : OwnT w8 0 (.slice A8 n2 C8) n2 Q2.l := by rw [HN2.out]; exact HO8.out
  have HPL : Hid (p < w8.heap.size) := Lib.hid (cell_in hp8)
  have HRL : Hid (∀ g, A8.map Addr.block = some g → g < w8.heap.size) := Lib.hid (fun g hg => (ho8.lt g (by rw [own_block]; exact hg)).2)
  have HALL8 : Hid (∀ w', Below w8.heap.size w8 w' → Dr (w1.heap.size + 2) b Q2 A4 C4 D m C2 (Q.l.map It.di) room c8 c11 gb w' ∧ Boxed w' w.heap.size 3 (.int .i64 rk) ∧ Boxed w' (w.heap.size + 1) 4 (.bool false) ∧ Below w.heap.size w w') := Lib.hid (fun w' h => HALL5.out w' (b8.trans (h.mono b8.size)))
  have CL8 : Hid (∀ w', Below w8.heap.size w8 w' → Calls Try.prog 15 #[.pointer (some ⟨b, 0, none⟩)] w' fun e w'' => e = .returned (.int .i64 (n2 : Int)) ∧ w'' = w') := Lib.hid (fun w' h => CL.out w' (b8.trans (h.mono b8.size)))
  have HLW : Hid (w.heap.size + 2 ≤ w8.heap.size) := Lib.hid (by have := HS.out; have := HB5.out.size; have := b8.size; omega)
  have bW : Below w8.heap.size w8 (w8.alloc (.cells #[.int .i64 0] 3)) := (Below.refl _ _).alloc (Nat.le_refl _) _
  have HPS := Lib.hid (all_stops 2 p n2 C8 A8 Q2.l HN2.out HN4.out (w8.alloc (.cells #[.int .i64 0] 3)) ((bW.cell (p := ⟨p, 0, none⟩) HPL.out).trans hp8) (ho8.below bW (Nat.le_refl _)))
  have HY0 : Hid (CI w8 ([] : List (Ent Q2.l)) (w8.alloc (.cells #[.int .i64 0] 3))) := Lib.hid ⟨bW, Boxed.new w8 3 (.int .i64 0)⟩
  have HOR : Hid (w8.heap.size ≤ (w8.alloc (.cells #[.int .i64 0] 3)).heap.size) := Lib.hid bW.size
  clear b8 hp8 ho8 bW CL CL2 CA HALL5 HD5 HB5 HB7 x0 x1 f11 HP8 HO8 HB8
  refine (wpIn_wide (n := 3)).1 ?_
  refine wpIn_rangeFunc_ownG hro (by omega) (gf := 25) (lb := #[.pointer (some ⟨p, 0, none⟩)]) rfl trivial (enters_of Try.func25 (by kernel_rfl) rfl)
    HPS.out Kr.trans' (fun W l o o' _ h2 h3 _ => Kr.obj W l o o' h2 h3) (Below.refl _ _) (fun _ => rfl)
    (fun pre W => CI w8 pre W)
    (fun c pre W => False)
    (CI.own HOR.out)
    (fun c _ _ _ _ hs _ _ => hs)
    HY0.out
    (fun x => { tmps := #[.int .i64 (room : Int), .slice a n c, .int .i64 rk, undef, undef, .pointer (some ⟨w.heap.size, 0, none⟩), .pointer (some ⟨w.heap.size + 1, 0, none⟩), .pointer (some ⟨b, 0, none⟩), .pointer (some ⟨c8, 0, none⟩), .bool true, .int .i64 gn, .pointer (some ⟨c11, 0, none⟩), .func (.func 25) #[] #[.pointer (some ⟨p, 0, none⟩)], .pointer (some ⟨w8.heap.size, 0, none⟩), .int .i64 (itAt Q2.l x.1).rank, .bool true, .bool false, .tuple #[.pointer (some ⟨b, 0, none⟩), .agg #[.int .i64 (room : Int), .slice D m C2], .bool true], .int .i64 (room : Int), .slice a n c, .tuple #[.pointer (some ⟨b, 0, none⟩), .agg #[.int .i64 (room : Int), .slice D m C2], .bool true], .pointer (some ⟨b, 0, none⟩), .agg #[.int .i64 (room : Int), .slice D m C2], .bool true, .bool true, .bool false, .bool false, .pointer (some ⟨b, 0, none⟩), .bool false, .bool false, undef, .tuple #[.int .i64 gn, .bool gb], .pointer (some ⟨b, 0, none⟩), .int .i64 rk, .tuple #[.int .i64 gn, .bool gb], .int .i64 gn, .bool gb, .bool gb, .pointer (some ⟨c8, 1, none⟩), .slice D m C2, .int .i64 (m : Int), .int .i64 (room : Int), .bool gb, .bool false, .bool false, .pointer (some ⟨b, 0, none⟩), .int .i64 (n2 : Int), .int .i64 (room : Int), .bool false, .bool false, .pointer (some ⟨b, 0, none⟩), .func (.func 25) #[] #[.pointer (some ⟨p, 0, none⟩)], .func (.func 25) #[] #[.pointer (some ⟨p, 0, none⟩)], .bool false, .func (.func 25) #[] #[.pointer (some ⟨p, 0, none⟩)], .int .i64 (itAt Q2.l x.1).rank, .int .i64 (itAt Q2.l x.1).v, undef, undef, undef, undef, undef, undef, undef, undef, undef, undef, undef, undef, undef, undef, undef, undef, undef, undef, undef, undef, undef, undef], defers := [] }) ?assign ?body ?done ?stop
  case assign =>
    intro l x W K hK
    dsimp only at hK ⊢
    gi_wp2
    exact hK
  case stop =>
    rintro D c pre W _ _ hn _
    exact hn.elim
  case body =>
    rintro l0 pre x Wb hI hlen
    obtain ⟨hdr, hrk, hres, hbB⟩ := HALL8.out Wb hI.bel
    obtain ⟨d0, d1⟩ := hdr.box.cells
    have cF := hdr.flag.cell
    have cR := hrk.cell
    have cK := hI.cnt.cell
    have fK := hI.cnt.frozen
    have HI := Lib.hid hI
    have HI2 := Lib.hid hI.cnt
    have HDR := Lib.hid hdr
    obtain ⟨q, hq⟩ : ∃ q, q = pre.length := ⟨_, rfl⟩
    have H9 : Hid (∀ j v, Below w8.heap.size Wb ((Wb.drewN j).setCell ⟨w8.heap.size, 0, none⟩ v)) := Lib.hid (fun j v => (below_drewN (Below.refl w8.heap.size Wb) j).setCell (p := ⟨w8.heap.size, 0, none⟩) (Nat.le_refl _) v)
    simp only [← hq] at cK
    have hq3 : (q : Int) ≤ 1001 := by omega
    have HM2 := Lib.hid hq
    have HMEM := Lib.hid (itAt_mem x.2)
    have HGO : Hid (∀ (j : Nat) (v : Value), v = .int .i64 ((q : Int) + 1) → CI w8 (pre ++ [x]) ((Wb.drewN j).setCell ⟨w8.heap.size, 0, none⟩ v)) := Lib.hid (fun j v hv => by
      refine ⟨hI.bel.trans (H9.out _ _), ?_⟩
      have h7 : Boxed (Wb.drewN j) w8.heap.size 3 (.int .i64 (pre.length : Int)) := HI2.out
      have h8 := h7.set (.int .i64 ((q : Int) + 1))
      have e8 : (((pre ++ [x]).length : Nat) : Int) = (q : Int) + 1 := by rw [List.length_append, List.length_singleton, ← HM2.out]; rfl
      rw [e8, hv]
      exact h8)
    clear hI hbB hq hlen hres hrk hdr
    dsimp only
    cases gb with
    | false =>
      generalize (itAt Q2.l x.1).rank = yr at *
      generalize (itAt Q2.l x.1).v = yv at *
      gi_upto_region 15 with fail
      refine wpIn_round_all (by kernel_rfl) (by kernel_rfl) (by kernel_rfl) ?_
      iterate 16 (refine wpQuietIn_step (fun _ _ _ _ => trivial) (fun K hK => ?_); go_simp; refine hK _ ?_; clear hK K)
      refine wpQuietIn_nil ?_
      rintro _ ⟨nq, rfl⟩
      gi_wp2
      exact ⟨((keeps_below10 (below_drewN (Below.refl _ Wb) nq)).trans (KeepsOthers.setCell _ _ _)).from _, Kr.below (H9.out _ _) HPL.out (.inr HRL.out), HGO.out _ _ rfl⟩
    | true =>
      obtain ⟨k, rfl, hle⟩ := HLE.out rfl
      have hkk : k < Q.l.length := by have := HM.out; omega
      have hk256 : (k : Int) ≤ 256 := by have := HF.out.1.len; have := HF.out.1.hi; omega
      obtain ⟨g, off, rfl, _, e0, _⟩ := HDR.out.two.dl.at_ k (itAt Q.l k).di (by rw [List.getElem?_map, itAt_some hkk]; rfl)
      dsimp only [It.di] at e0
      have hy := hle _ HMEM.out
      generalize (itAt Q.l k).rank = lr at *
      generalize (itAt Q2.l x.1).rank = yr at *
      generalize (itAt Q2.l x.1).v = yv at *
      have k1 : ((k + 1 : Nat) : Int) - 1 = (k : Int) := by omega
      have k2 : (0 : Int) ≤ (k : Int) := by omega
      have k3 : (k : Int) < ((k + 1 : Nat) : Int) := by omega
      have k6 : (k : Int) < (k : Int) + 1 := by omega
      have k5 : IntKind.i64.wrap (k : Int) = (k : Int) := by rw [IntKind.wrap_i64]; omega
      clear hle hkk
      by_cases hmx : rk < lr
      · have k4 : ¬ lr < yr := by omega
        clear hy
        gi_upto_region 15 with fail
        refine wpIn_round_all (by kernel_rfl) (by kernel_rfl) (by kernel_rfl) ?_
        iterate 16 (refine wpQuietIn_step (fun _ _ _ _ => trivial) (fun K hK => ?_); go_simp; refine hK _ ?_; clear hK K)
        refine wpQuietIn_nil ?_
        rintro _ ⟨nq, rfl⟩
        gi_wp2
        exact ⟨((keeps_below10 (below_drewN (Below.refl _ Wb) nq)).trans (KeepsOthers.setCell _ _ _)).from _, Kr.below (H9.out _ _) HPL.out (.inr HRL.out), HGO.out _ _ rfl⟩
      · have k4 : ¬ rk < yr := by omega
        clear hy
        gi_upto_region 15 with fail
        refine wpIn_round_all (by kernel_rfl) (by kernel_rfl) (by kernel_rfl) ?_
        iterate 16 (refine wpQuietIn_step (fun _ _ _ _ => trivial) (fun K hK => ?_); go_simp; refine hK _ ?_; clear hK K)
        refine wpQuietIn_nil ?_
        rintro _ ⟨nq, rfl⟩
        gi_wp2
        exact ⟨((keeps_below10 (below_drewN (Below.refl _ Wb) nq)).trans (KeepsOthers.setCell _ _ _)).from _, Kr.below (H9.out _ _) HPL.out (.inr HRL.out), HGO.out _ _ rfl⟩
  case done =>
    rintro D1 ys W9 hD hys hI hK
    have hyl : ys.length = n2 := by have := congrArg List.length hys; rw [entsOf_length, List.length_range] at this; rw [HN2.out]; exact this
    have hc9 : Boxed W9 w8.heap.size 3 (.int .i64 (n2 : Int)) := by
      have h : Boxed W9 w8.heap.size 3 (.int .i64 (ys.length : Int)) := hI.cnt
      rwa [hyl] at h
    obtain ⟨_, _, hres, hbB⟩ := HALL8.out W9 hI.bel
    have c9 := hc9.cell
    have cR := hres.cell
    have fR := hres.frozen
    have HRS := Lib.hid hres
    have HK1 := Lib.hid hK
    have HBB := Lib.hid hbB
    have CLD := Lib.hid (CL8.out W9.drew hI.bel.drew)
    have hne : w8.heap.size ≠ w.heap.size + 1 := by have := HLW.out; omega
    have H13 : Hid (∀ v, (W9.drew.setCell ⟨w.heap.size + 1, 0, none⟩ v).cell? ⟨w8.heap.size, 0, none⟩ = some (.int .i64 (n2 : Int))) := Lib.hid (fun v => (World.cell?_of_block (a := ⟨w8.heap.size, 0, none⟩) (Below.heap_setCell W9.drew ⟨w.heap.size + 1, 0, none⟩ v w8.heap.size hne)).trans c9)
    have kq : ((n2 : Int) == (n2 : Int)) = true := by simp
    clear hyl hys hI hK hres hbB hc9
    dsimp only
    go_upto_region 18 with fail
    go_region_held3 (fun w' => w'.cell? ⟨w8.heap.size, 0, none⟩ = some (.int .i64 (n2 : Int)))
      (first | exact c9 | exact H13.out _ | fail)
      (first
        | (go_at_call 15; (with_reducible refine (CLD.out).mono ?_); rintro e w10 ⟨rfl, rfl⟩)
        | fail)
    go_wp2
    have hrs2 : Boxed W9.drew (w.heap.size + 1) 4 (.bool false) := HRS.out
    have hK1 := (KeepsOthers.setCell W9.drew ⟨w.heap.size + 1, 0, none⟩ (.bool true)).same D1 _ HK1.out rfl
    have hDw1 : w.heap.size ≤ D1 := by have := HLW.out; have := HOR.out; omega
    refine ⟨by simp, .inl ⟨_, _, rfl, run_takeDeferred hK1, ?_⟩⟩
    have hc6 := cell_kept (hrs2.set (.bool true)).cell (grownBy_putObj' _ D1 (.deferred none)) (fun r e => by cases e; exact ⟨_, hK1, rfl⟩)
    have hc7 : ((W9.setCell ⟨w.heap.size + 1, 0, none⟩ (.bool true)).drew.putObj D1 (.deferred none)).cell? ⟨w.heap.size + 1, 0, none⟩ = some (.bool true) := hc6
    refine ⟨.bool true, ?_, rfl, (HBB.out.drew.setCell (p := ⟨w.heap.size + 1, 0, none⟩) (by show _ ≤ w.heap.size + 1; omega) _).trans (belowK_b (w := w) (Nat.le_refl _) _ D1 _ _ hDw1 hK1 rfl rfl)⟩
    simp [results, Try.f6, go_sem, hc7]
theorem drops10_walk (room : Int) (a : Option Addr) (n c : Nat) (rk : Int) (w : World) (hp : n ≤ 80 → ∃ K N V, Ops w a n K N V) :
    Calls Try.prog 6 #[.int .i64 room, .slice a n c, .int .i64 rk] w (Yes10 w) := by
  by_cases h : room < 1 ∨ 40 < room ∨ 80 < n
  · exact drops10_skip room a n c rk h w
  · obtain ⟨K, N, V, ho⟩ := hp (by omega)
    have e : room = (room.toNat : Int) := by omega
    rw [e]
    exact drops10_go room.toNat (by omega) (by omega) a n c (by omega) K N V rk w ho
end Go.Proofs.Ytagcpnelobidnaa
