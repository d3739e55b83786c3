/-
  Own text: Filter, walked.
-/
import Derived.Test.YtagcpnelobidnaaPqN
import Derived.Carry
namespace Go.Proofs.Ytagcpnelobidnaa
open Go.RowKit

/-- The numbers of those that go. -/
def marks (d : Int) (l : List It) (z : Int) : Bool := l.any (fun x => !keeps d x.v && z == x.num)
theorem marks_step (d : Int) (l : List It) (k : Nat) (y : It) (h : l[k]? = some y) : marks d (l.take (k + 1)) = if keeps d y.v then marks d (l.take k) else fun z => marks d (l.take k) z || z == y.num := by
  funext z
  unfold marks
  rw [List.take_add_one, h, List.any_append]
  cases hk : keeps d y.v <;> simp [hk]
def Qn.filter (Q : Qn) (d : Int) : Qn := ⟨Q.room, Q.pushed, Q.l.filter (fun x => keeps d x.v)⟩
theorem marks_at {d : Int} {l : List It} (h : l.Pairwise (fun a b => a.num ≠ b.num)) : ∀ x ∈ l, marks d l x.num = !keeps d x.v := by
  intro x hx
  unfold marks
  cases hk : keeps d x.v
  · simp only [Bool.not_false]
    rw [List.any_eq_true]
    exact ⟨x, hx, by simp [hk]⟩
  · simp only [Bool.not_true]
    rw [List.any_eq_false]
    intro y hy
    by_cases e : x.num = y.num
    · have : x = y := by
        obtain ⟨i, hi, rfl⟩ := List.getElem_of_mem hx
        obtain ⟨j, hj, rfl⟩ := List.getElem_of_mem hy
        rw [List.pairwise_iff_getElem] at h
        rcases Nat.lt_trichotomy i j with g | g | g
        · exact absurd e (h i j hi hj g)
        · subst g; rfl
        · exact absurd e.symm (h j i hj hi g)
      subst this
      simp [hk]
    · simp [e]
theorem stay_marks {d : Int} {l : List It} (h : l.Pairwise (fun a b => a.num ≠ b.num)) : stay (marks d l) l = l.filter (fun x => keeps d x.v) := by
  unfold stay
  apply List.filter_congr
  intro x hx
  rw [marks_at h x hx]
  simp
theorem Qn.filter_fit {Q : Qn} {k : Nat} (h : Q.fit k) (d : Int) : (Q.filter d).fit k :=
  ⟨h.lo, h.hi, Nat.le_trans (List.length_filter_le _ _) h.len, h.pushed, fun x hx => h.num x ((List.mem_filter.1 hx).1), List.Pairwise.sublist List.filter_sublist h.sorted, List.Pairwise.sublist List.filter_sublist h.apart⟩
theorem Qn.fit.wf {Q : Qn} {k : Nat} (h : Q.fit k) (hk : k ≤ 1000000) : ∀ x ∈ Q.l, (Lit.int .i64 x.num).wf = true := by
  intro x hx
  have h1 := h.num x hx
  have h2 := h.pushed
  simp [Lit.wf, IntKind.min, IntKind.max, IntKind.bits, IntKind.signed] <;> omega
set_option maxRecDepth 100000 in
theorem filter_any (d : Int) (b c k : Nat) (Q : Qn) (A : Option Addr) (C : Nat) (hf : Q.fit k) (hk : k ≤ 1000000) (hd : 1 ≤ d) (hdm : d ≤ 9223372036854775807) (w : World) (h : QB w b Q A C) (hc : w.cell? ⟨c, 0, none⟩ = some (.int .i64 d)) (hcl : c < w.heap.size) :
    Calls Try.prog 27 #[.pointer (some ⟨b, 0, none⟩), .func (.func 28) #[] #[.pointer (some ⟨c, 0, none⟩)]] w fun e w' => e = .returned (.int .i64 ((Q.l.length : Int) - ((Q.filter d).l.length : Int))) ∧ Hid (QTo w b A (Q.filter d) w') := by
  have hmm := @run_makeMap Try.prog
  obtain ⟨W1, hW1⟩ : ∃ W1, W1 = (w.alloc (.map #[] 0)).alloc (.cells #[.map (some w.heap.size)] 81) := ⟨_, rfl⟩
  have hb1 : Below w.heap.size w W1 := by rw [hW1]; exact ((Below.refl _ _).alloc (Nat.le_refl _) _).alloc (by simp) _
  have hs1 : W1.heap.size = w.heap.size + 2 := by rw [hW1]; simp
  have hx1 : W1.cell? ⟨w.heap.size + 1, 0, none⟩ = some (.map (some w.heap.size)) := by
    have := Go.Deep.blk_alloc_new (w.alloc (.map #[] 0)) (.cells #[.map (some w.heap.size)] 81)
    rw [← hW1] at this
    simp only [World.cell?, show w.heap.size + 1 = (w.alloc (.map #[] 0)).heap.size by simp, this]
    rfl
  have hm1 : Going W1 w.heap.size 0 (fun _ => false) := (Going.made w).keep (by rw [hW1]; exact Below.heap_alloc _ _ _ (by simp))
  have hq1 : QB W1 b Q A C := h.below hb1 (Nat.le_refl _)
  have hlt := h.lt
  obtain ⟨c0, c1, c2⟩ := hq1.blk.cells
  have hn : Q.l.length ≤ 1000 := by have := hf.len; have := hf.hi; omega
  have CC := Lib.hid (copy_any A Q.l.length C Q.l hn W1 hq1.own)
  have HX1 := Lib.hid hx1
  have HM1 := Lib.hid hm1
  have HB1 := Lib.hid hb1
  have HS1 := Lib.hid hs1
  have HQ := Lib.hid h
  have HC := Lib.hid hc
  have HCL := Lib.hid hcl
  have HLT := Lib.hid hlt
  have HF := Lib.hid hf
  have HK := Lib.hid hk
  have HN := Lib.hid hn
  have HD := Lib.hid (And.intro hd hdm)
  have HW1 := Lib.hid hW1
  have HLL : Hid (Q.l.length = Q.l.length) := Lib.hid rfl
  have hn2 : (Q.l.length : Int) ≤ 1000 := by omega
  clear h hc hcl hf hk hd hdm hb1 hs1 hx1 hm1 hq1 hlt hn hW1
  go_enter Try.func27, Try.ntmps27
  go_upto_region 2 with fail
  rw [← HW1.out]
  go_wp2_with (first
    | (go_at_call 24; (with_reducible refine (CC.out).mono ?_); rintro e w2 ⟨A2, C2, rfl, HO2, HB2⟩)
    | fail)
  go_loopw [7, 16] (fun _ i wr => ∃ k : Nat, k ≤ Q.l.length ∧ i = .int .i64 (k : Int) ∧ Hid (∃ N, N ≤ k ∧ Ask wr (w.heap.size + 1) w.heap.size N (marks d (Q.l.take k))) ∧ Hid (OwnT wr W1.heap.size (.slice A2 Q.l.length C2) Q.l.length Q.l) ∧ Hid (Below w.heap.size w wr)) (fun _ i _ => Q.l.length - (intOf i).toNat)
  case atStart =>
    refine ⟨0, Nat.zero_le _, rfl, Lib.hid ⟨0, Nat.le_refl _, ?_⟩, HO2, Lib.hid (HB1.out.trans (HB2.out.mono (by have := HS1.out; omega)))⟩
    have a1 : Ask W1 (w.heap.size + 1) w.heap.size 0 (fun _ => false) := ⟨HX1.out, by have := HS1.out; omega, HM1.out⟩
    have e : marks d (Q.l.take 0) = fun _ => false := by funext z; rfl
    rw [e]
    exact a1.below HB2.out
  case round =>
    obtain ⟨k, hk, rfl, HA, HO, HB⟩ := hrel
    by_cases hlt : k < Q.l.length
    · obtain ⟨y, hy⟩ : ∃ y, Q.l[k]? = some y := ⟨_, List.getElem?_eq_getElem hlt⟩
      obtain ⟨g, eA, hgW, hgl, d0, d1, d2⟩ := HO.out.at_ k y hy
      subst eA
      obtain ⟨N, hN, ha⟩ := HA.out
      obtain ⟨W, hW⟩ : ∃ W, W = wr.alloc (.cells #[.int .i64 y.rank, .int .i64 y.num, .int .i64 y.v] 62) := ⟨_, rfl⟩
      have hbW : Below wr.heap.size wr W := by rw [hW]; exact (Below.refl _ _).alloc (Nat.le_refl _) _
      have haW := ha.below hbW
      have hbig := HB.out.size
      have hx : TBlk W wr.heap.size (icells [y]) := by rw [hW]; exact one_new wr y _ rfl
      have x1 := hx.cell 1
      have x2 := hx.cell 2
      simp only [icells, List.getElem?_cons_succ, List.getElem?_cons_zero] at x1 x2
      have hcW : W.cell? ⟨c, 0, none⟩ = some (.int .i64 d) := by
        have hcw : c < w.heap.size := HCL.out
        exact (hbW.cell (p := ⟨c, 0, none⟩) (by show c < _; omega)).trans ((HB.out.cell (p := ⟨c, 0, none⟩) hcw).trans HC.out)
      have CR := Lib.hid (refused_any y.v d c HD.out.1 HD.out.2 W hcW)
      have b0 := haW.box
      have hbB : Below w.heap.size w W := HB.out.trans (hbW.mono hbig)
      have hoW : OwnT W W1.heap.size (.slice (some ⟨g, 0, none⟩) Q.l.length C2) Q.l.length Q.l := HO.out.below hbW (Nat.le_refl _)
      have HGO := Lib.hid haW.set
      have HYW := Lib.hid (HF.out.wf HK.out y (List.mem_of_getElem? hy))
      have HNN : Hid (N ≤ 100000) := Lib.hid (by have := HN.out; omega)
      have HST := Lib.hid (marks_step d Q.l k y hy)
      have HNK := Lib.hid hN
      have HAW := Lib.hid haW
      have HOW := Lib.hid hoW
      have HBB := Lib.hid hbB
      have HWW := Lib.hid hW
      have HGW : Hid (W1.heap.size ≤ g) := Lib.hid hgW
      have j1 : (k : Int) < (Q.l.length : Int) := by omega
      cases hs : keeps d y.v with
      | true =>
        have HST2 : Hid (marks d (Q.l.take (k + 1)) = marks d (Q.l.take k)) := Lib.hid (by have := HST.out; rw [hs] at this; simpa using this)
        rw [hs] at CR
        clear hy ha haW hW hbW hx hcW hbB hoW hs hN hgW hgl hbig HST
        generalize y.rank = yr at *
        generalize y.num = yn at *
        generalize y.v = yv at *
        go_upto_region 5 with fail
        rw [← HWW.out]
        go_wp2_with (first
          | (go_at_call 37; (with_reducible refine (CR.out).mono ?_); rintro e w3 ⟨rfl, rfl⟩)
          | fail)
        go_roundw
        case rel => exact ⟨k + 1, by omega, by go_num, Lib.hid ⟨N, by have := HNK.out; omega, by rw [HST2.out]; exact HAW.out⟩, HOW, HBB⟩
        case measure => simp [intOf] <;> omega
      | false =>
        have HST2 : Hid (marks d (Q.l.take (k + 1)) = fun z => marks d (Q.l.take k) z || z == y.num) := Lib.hid (by have := HST.out; rw [hs] at this; simpa using this)
        rw [hs] at CR
        clear hy ha haW hW hbW hx hcW hbB hoW hs hN hgW hgl hbig HST
        generalize y.rank = yr at *
        generalize y.num = yn at *
        generalize y.v = yv at *
        go_upto_region 5 with fail
        rw [← HWW.out]
        go_wp2_with (first
          | (go_at_call 37; (with_reducible refine (CR.out).mono ?_); rintro e w3 ⟨rfl, rfl⟩)
          | ((with_reducible refine wpList_mark rfl (.tmp 24) (.tmp 26) (.tmp 27) rfl w.heap.size N (marks d (Q.l.take k)) rfl HGO.out HNN.out yn HYW.out rfl rfl ?_); intro w4 HG4 HW4)
          | fail)
        go_roundw
        case rel =>
          refine ⟨k + 1, by omega, by go_num, Lib.hid ⟨N + 1, by have := HNK.out; omega, ?_⟩, Lib.hid ?_, Lib.hid ?_⟩
          · rw [HST2.out]
            exact ⟨(World.cell?_of_block (HW4.out.block _ HAW.out.lt (by simp))).trans HAW.out.box, Nat.lt_of_lt_of_le HAW.out.lt HW4.out.size, HG4.out⟩
          · exact HOW.out.keep (fun g' hg' => HW4.out.block g' (HOW.out.lt g' hg').2 (by
              have := (HOW.out.lt g' hg').1
              have := HS1.out
              simp
              omega))
          · exact below_grown HBB.out HW4.out HBB.out.size (fun k hk => by simp at hk; omega)
        case measure => simp [intOf] <;> omega
    · obtain ⟨N, hN, ha⟩ := HA.out
      have hkn : k = Q.l.length := by omega
      subst hkn
      rw [List.take_length] at ha
      have hqr := HQ.out.below HB.out (Nat.le_refl _)
      obtain ⟨f0, f1, f2⟩ := hqr.blk.cells
      have hap : ∀ g, A.map Addr.block = some g → g < w.heap.size := HLT.out
      have CD := Lib.hid (delfunc_any (marks d Q.l) A Q.l.length C (w.heap.size + 1) w.heap.size N Q.l HN.out (HF.out.wf HK.out) wr hqr.own ha (fun e => by have := hap _ e.symm; omega) (fun e => by have := hap _ e.symm; omega))
      rw [stay_marks HF.out.apart] at CD
      obtain ⟨L, hL⟩ : ∃ L, L = Q.l.filter (fun x => keeps d x.v) := ⟨_, rfl⟩
      have hLl : L.length ≤ Q.l.length := by rw [hL]; exact List.length_filter_le _ _
      have hQL : Q.filter d = ⟨Q.room, Q.pushed, L⟩ := by rw [hL]; rfl
      have HQL := Lib.hid hQL
      rw [← hL] at CD
      unfold LeftTo at CD
      have HQR := Lib.hid hqr
      have hk1 : (L.length : Int) ≤ (Q.l.length : Int) := by omega
      have n3 : ¬ (Q.l.length : Int) < (Q.l.length : Int) := by omega
      have HLL2 : Hid (∀ w5, wr.grownBy w5 (A.map Addr.block) → QBlk w5 b Q.room Q.pushed (.slice A Q.l.length C)) := Lib.hid (fun w5 hg => hqr.blk.keep (hg.block b hqr.blk.lt (fun e => hqr.apart b e.symm rfl)))
      clear hqr ha hap hL hLl hQL hk
      go_wp2_with (first
        | (go_at_call 38; (with_reducible refine (CD.out).mono ?_); rintro e w5 ⟨rfl, HO5, HG5⟩; have HX5 := Lib.hid (HLL2.out w5 HG5.out); obtain ⟨g0, g1, g2⟩ := HX5.out.cells; have gf := HX5.out.frozen 2)
        | fail)
      go_ret
      refine ⟨?_, Lib.hid ?_⟩
      · rw [HQL.out]
        rfl
      · rw [HQL.out]
        refine ⟨A, C, ⟨HX5.out.setItems _, ?_⟩, .inl rfl, ((Frm.of_below HB.out).trans (Frm.grown HG5.out)).trans (Frm.setIn _ _ _ _ _)⟩
        exact HO5.out.keep (fun g hg => Below.heap_setCell _ _ _ g (HQR.out.apart g (by rw [own_block] at hg; exact hg)))
end Go.Proofs.Ytagcpnelobidnaa
