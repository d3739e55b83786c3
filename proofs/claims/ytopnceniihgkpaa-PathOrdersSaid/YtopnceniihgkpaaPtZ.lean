/-
  Own text: law PathOrders, walked.
  law PathOrders, walked: the loop and its end.
-/
import Derived.Test.YtopnceniihgkpaaPtK
import Derived.Test.YtopnceniihgkpaaPtO
import Derived.Test.YtopnceniihgkpaaPtU
import Derived.Test.YtopnceniihgkpaaPtW
import Derived.Test.YtopnceniihgkpaaPtX
namespace Go.Proofs.Ytopnceniihgkpaa
open Go.RowKit

/-- So many ways side by side: the code's, each in a block of its own, and the document's by value. -/
structure OS (w : World) (i : Nat) (pb : Nat → Nat) (P : Nat → Pn) (A : Option Addr) (C : Nat) (A' : Option Addr) (C' : Nat) (W : World) : Prop where
  all : W.ownsRow w.heap.size 44 1 (.slice A i C) i ((List.range i).map (fun k => .pointer (some ⟨pb k, 0, none⟩)))
  want : W.ownsRow w.heap.size 37 78 (.slice A' i C') i ((List.range i).flatMap (fun k => (rowOf 78 (P k).dc).toList))
  own : ∀ k, k < i → W.heap[pb k]? = some (.cells (P k).cells 31 (0, 0))
  fit : ∀ k, k < i → (P k).fit 100
  bel : Below w.heap.size w W
section
variable {w W W' : World} {i : Nat} {pb : Nat → Nat} {P : Nat → Pn} {A : Option Addr} {C : Nat} {A' : Option Addr} {C' : Nat}
theorem OS.below (h : OS w i pb P A C A' C' W) (hb : Below W.heap.size W W') : OS w i pb P A C A' C' W' :=
  ⟨ownsRow_below h.all hb (Nat.le_refl _), ownsRow_below h.want hb (Nat.le_refl _), fun k hk => (hb.block _ (Array.getElem?_eq_some_iff.1 (h.own k hk)).1).trans (h.own k hk), h.fit, h.bel.trans (hb.mono h.bel.size)⟩
theorem OS.start (w : World) {W : World} (hb : Below w.heap.size w W) (pb : Nat → Nat) (P : Nat → Pn) : OS w 0 pb P none 0 none 0 W :=
  ⟨World.ownsRow_nil _ _ _ _, World.ownsRow_nil _ _ _ _, fun k hk => by omega, fun k hk => by omega, hb⟩
def put1 (f : Nat → Nat) (i v : Nat) (k : Nat) : Nat := if k = i then v else f k
def putP (f : Nat → Pn) (i : Nat) (v : Pn) (k : Nat) : Pn := if k = i then v else f k
theorem list_put {α β : Type} (f : Nat → α) (i : Nat) (v : α) (g : α → List β) : (List.range i).flatMap (fun k => g (f k)) ++ g v = (List.range (i + 1)).flatMap (fun k => g (if k = i then v else f k)) := by
  rw [List.range_succ, List.flatMap_append]
  congr 1
  · rw [List.flatMap_def, List.flatMap_def]
    congr 1
    apply List.map_congr_left
    intro a ha
    have h : ¬ a = i := by have := List.mem_range.1 ha; omega
    rw [if_neg h]
  · simp
theorem map_put {α β : Type} (f : Nat → α) (i : Nat) (v : α) (g : α → β) : (List.range i).map (fun k => g (f k)) ++ [g v] = (List.range (i + 1)).map (fun k => g (if k = i then v else f k)) := by
  rw [List.range_succ, List.map_append]
  congr 1
  · apply List.map_congr_left
    intro a ha
    have h : ¬ a = i := by have := List.mem_range.1 ha; omega
    rw [if_neg h]
  · simp
/-- Both have grown by one. -/
theorem OS.more {W1 W2 W3 W4 : World} {v : Nat} {p : Pn} {A2 : Option Addr} {C2 : Nat} {A2' : Option Addr} {C2' : Nat} (h : OS w i pb P A C A' C' W1) (hp : p.fit 100) (hv : W1.heap[v]? = some (.cells p.cells 31 (0, 0)))
    (g1 : Grew w.heap.size 44 W1 W2) (a1 : W2.ownsRow w.heap.size 44 1 (.slice A2 (i + 1) C2) (i + 1) ((List.range i).map (fun k => .pointer (some ⟨pb k, 0, none⟩)) ++ [.pointer (some ⟨v, 0, none⟩)]))
    (b3 : Below W2.heap.size W2 W3)
    (g2 : Grew w.heap.size 37 W3 W4) (a2 : W4.ownsRow w.heap.size 37 78 (.slice A2' (i + 1) C2') (i + 1) ((List.range i).flatMap (fun k => (rowOf 78 (P k).dc).toList) ++ (rowOf 78 p.dc).toList)) :
    OS w (i + 1) (put1 pb i v) (putP P i p) A2 C2 A2' C2' W4 := by
  refine ⟨?_, ?_, fun k hk => ?_, fun k hk => ?_, ((h.bel.trans g1.bel).trans (b3.mono (Nat.le_trans h.bel.size g1.size))).trans g2.bel⟩
  · have h3 := ownsRow_below a1 b3 (Nat.le_refl _)
    have h4 := g2.row h3 (by decide)
    rw [map_put pb i v (fun x => Value.pointer (some ⟨x, 0, none⟩))] at h4
    exact h4
  · rw [list_put P i p (fun q => (rowOf 78 q.dc).toList)] at a2
    exact a2
  · have keep : ∀ (b : Nat) (q : Pn), W1.heap[b]? = some (.cells q.cells 31 (0, 0)) → W4.heap[b]? = some (.cells q.cells 31 (0, 0)) := fun b q hq => by
      have e1 := (g1.typ b _ _ hq (by decide)).trans hq
      have e2 := (b3.block b (Array.getElem?_eq_some_iff.1 e1).1).trans e1
      exact (g2.typ b _ _ e2 (by decide)).trans e2
    unfold put1 putP
    by_cases e : k = i
    · rw [if_pos e, if_pos e]
      exact keep v p hv
    · rw [if_neg e, if_neg e]
      exact keep _ _ (h.own k (by omega))
  · unfold putP
    by_cases e : k = i
    · rw [if_pos e]; exact hp
    · rw [if_neg e]; exact h.fit k (by omega)
theorem OS.ways (h : OS w i pb P A C A' C' W) : Ways W A i pb (fun _ => 0) P := fun k hk => by
  rcases h.all.2 with ⟨_, h0⟩ | ⟨g, cap, cur, e, _⟩
  · omega
  · simp only [Value.slice.injEq, true_and] at e
    obtain ⟨rfl, rfl⟩ := e
    refine ⟨g, rfl, ?_, (pb k |> fun b => ⟨_, _, h.own k hk, by simp, fun j _ => by rw [Nat.zero_add]⟩)⟩
    have := h.all.cells (g := g) rfl k (.pointer (some ⟨pb k, 0, none⟩)) (by rw [List.getElem?_map, List.getElem?_range hk]; rfl)
    rw [add_place, Nat.zero_add] at this
    exact this
theorem flat_get {α : Type} (f : Nat → List α) (m : Nat) (hm : ∀ k, (f k).length = m) : ∀ (n k j : Nat), k < n → j < m → ((List.range n).flatMap f)[k * m + j]? = (f k)[j]?
  | 0, k, j, hk, _ => by omega
  | n + 1, k, j, hk, hj => by
    have hl : ((List.range n).flatMap f).length = n * m := by
      clear hk hj
      induction n with
      | zero => simp
      | succ n ih => rw [List.range_succ, List.flatMap_append, List.length_append, ih]; simp [hm]; rw [Nat.succ_mul]
    rw [List.range_succ, List.flatMap_append]
    by_cases e : k = n
    · subst e
      rw [List.getElem?_append_right (by omega), hl, Nat.add_sub_cancel_left]
      simp
    · have h1 : k < n := by omega
      have h2 : k * m + j < n * m := by
        have : (k + 1) * m ≤ n * m := Nat.mul_le_mul_right m h1
        rw [Nat.succ_mul] at this
        omega
      rw [List.getElem?_append_left (by omega)]
      exact flat_get f m hm n k j h1 hj
theorem OS.rways (h : OS w i pb P A C A' C' W) : RWays W A' i P := fun k hk => by
  rcases h.want.2 with ⟨_, h0⟩ | ⟨g, cap, cur, e, _⟩
  · omega
  · simp only [Value.slice.injEq, true_and] at e
    obtain ⟨rfl, rfl⟩ := e
    refine ⟨g, rfl, fun j v hv => ?_⟩
    have hj : j < 78 := by simpa using (List.getElem?_eq_some_iff.1 hv).1
    have := h.want.cells (g := g) rfl (k * 78 + j) v (by
      rw [flat_get (fun k => (rowOf 78 (P k).dc).toList) 78 (fun k => by simp [rowOf_size]) i k j hk hj, ← hv]
      rfl)
    rw [add_place, Nat.zero_add] at this
    exact this
end
end Go.Proofs.Ytopnceniihgkpaa
namespace Go.Proofs.Ytopnceniihgkpaa
open Go.RowKit

theorem info44 : (Try.prog.info? 44).map (fun i => (i.zero, i.size, i.bytes)) = some (some (.pointer none), 1, 8) := by kernel_rfl
theorem info37b : (Try.prog.info? 37).map (fun i => (i.zero, i.size, i.bytes)) = some (some (.agg (rowOf 78 Pn.zero.dc)), 78, 168) := by kernel_rfl
set_option maxRecDepth 100000 in
set_option maxHeartbeats 8000000 in
theorem orders14_walk (a : Option Addr) (n c : Nat) (w : World) (hp : True → OpsL w a n) :
    Calls Try.prog 4 #[.slice a n c] w (Yes14 w) := by
  have HL := Lib.hid (hp trivial)
  have I37 := Lib.hid info37
  have zz := zero37
  obtain ⟨Z, hZ⟩ : ∃ Z, Z = rowOf 78 Pn.zero.dc := ⟨_, rfl⟩
  rw [← hZ] at zz
  have HZN := Lib.hid (boxz14 hZ)
  have HKP := Lib.hid (@kept14 Z)
  clear hp hZ
  unfold Pn.cells at HZN HKP
  go_enter Try.func4, Try.ntmps4
  go_upto_region 3 with (first
    | (go_at_call 6; (refine (awake14_any _).mono ?_); rintro e w1 ⟨rfl, hb1⟩; have HB1 := Lib.hid hb1; clear hb1)
    | fail)
  by_cases h8 : 8 < (n : Int)
  · go_wp2
    go_ret
    exact ⟨rfl, HB1.out⟩
  · have hn8 : (n : Int) ≤ 8 := by omega
    go_wp2
    go_loopw [3, 4, 5] (fun s3 s4 s5 wr => ∃ (i : Nat) (pb : Nat → Nat) (P : Nat → Pn) (A : Option Addr) (C : Nat) (A' : Option Addr) (C' : Nat), s3 = .slice A i C ∧ s4 = .slice A' i C' ∧ s5 = .int .i64 (i : Int) ∧ Hid (i ≤ n) ∧ Hid (OS w i pb P A C A' C' wr)) (fun _ _ s5 _ => n - (intOf s5).toNat)
    case atStart => exact ⟨0, fun _ => 0, fun _ => Pn.zero, none, 0, none, 0, rfl, rfl, rfl, Lib.hid (Nat.zero_le _), Lib.hid (OS.start w HB1.out _ _)⟩
    case round =>
      obtain ⟨i, pb, P, A, C, A', C', rfl, rfl, rfl, HI, HO⟩ := hrel
      have hi := HI.out
      by_cases hlt : i < n
      · obtain ⟨g0, off, rfl, hgl, hcell⟩ := HL.out.resolve_left (by omega)
        obtain ⟨a1, n1, c1, K, N, T, hc1, hops⟩ := hcell i hlt
        have ci : wr.cell? ⟨g0, off + i, none⟩ = some (.slice a1 n1 c1) := (HO.out.bel.cell (p := ⟨g0, off + i, none⟩) hgl).trans hc1
        have CP := Lib.hid (played14_any a1 n1 c1 K N T wr (hops.below HO.out.bel (Nat.le_refl _)))
        have k1 : (i : Int) < n := by omega
        have k2 : (0 : Int) ≤ (i : Int) := by omega
        have HI2 : Hid (i + 1 ≤ n) := Lib.hid hlt
        have HDM : Hid (n - (i + 1) < n - i) := Lib.hid (by omega)
        have k3 : (i : Int) ≤ 8 := by omega
        unfold Pn.cells at CP
        clear hlt hi hgl hcell hc1 hops
        go_upto_region 11 with (first
          | (go_at_call 7; (with_reducible refine (CP.out).mono ?_); rintro e w2 ⟨p, rfl, HF, HN⟩; have HO2 := Lib.hid (HO.out.below HN.out))
          | (with_reducible refine wpList_store_rowIs rfl 37 (.tmp 7) (.tmp 31) rfl (w2.heap.size + 1) rfl 78 p.dc rfl 37 Pn.zero.dc (HZN.out w2 p) I37.out p.dc_one ?_; intro w5 G5 G6 G7 G8; have HK := Lib.hid (HKP.out w2 p G5.out G7.out); clear G5 G6 G7 G8)
          | fail)
        have HO5 := Lib.hid (HO2.out.below HK.out.2.2)
        have HP5 := Lib.hid HK.out.1
        have HR5 := Lib.hid HK.out.2.1
        clear HO HO2 HK CP ci HN
        obtain ⟨e0, e1, e2, e3, e4⟩ := HP5.out.five0
        obtain ⟨e5, e6, e7, e8, e9, e10⟩ := HP5.out.six0
        obtain ⟨e11, e12, e13, e14⟩ := HP5.out.four0
        go_upto_region 14 with fail
        have HO6 := Lib.hid (HO5.out.below ((Below.refl w5.heap.size w5).alloc (Nat.le_refl _) (.cells p.cells 31)))
        have HV6 : Hid ((w5.alloc (.cells p.cells 31)).heap[w5.heap.size]? = some (.cells p.cells 31 (0, 0))) := Lib.hid (Go.Deep.blk_alloc_new w5 _)
        have HR6 : Hid (RB (w5.alloc (.cells p.cells 31)) (w2.heap.size + 1) p) := Lib.hid (World.rowIs.alloc HR5.out _)
        unfold Pn.cells at HO6 HV6 HR6
        clear e0 e1 e2 e3 e4 e5 e6 e7 e8 e9 e10 e11 e12 e13 e14 HP5 HR5 HO5
        generalize w5.alloc (.cells #[.int .i64 p.st.lo, .int .i64 p.st.rt, .int .i64 p.st.va, .int .i64 p.st.ma, .int .i64 p.st.tr, .bool p.sn.any, .int .u32 p.sn.top, .int .u64 p.sn.bts.toNat, .int .i64 p.sn.came, .int .i64 p.sn.twice, .int .i64 p.sn.lost, .int .i64 p.q, .int .i64 p.pr, .int .i64 p.ga, .int .u32 p.nx] 31) = w6 at *
        generalize w5.heap.size = v at *
        generalize w2.heap.size + 1 = g2 at *
        have HO7 := Lib.hid (HO6.out.below ((Below.refl w6.heap.size w6).alloc (Nat.le_refl _) (.cells #[.pointer (some ⟨v, 0, none⟩)] 44)))
        have HV7 : Hid ((w6.alloc (.cells #[.pointer (some ⟨v, 0, none⟩)] 44)).heap[v]? = some (.cells p.cells 31 (0, 0))) := Lib.hid ((Below.heap_alloc _ _ _ (Array.getElem?_eq_some_iff.1 HV6.out).1).trans HV6.out)
        have HR7 : Hid (RB (w6.alloc (.cells #[.pointer (some ⟨v, 0, none⟩)] 44)) g2 p) := Lib.hid (World.rowIs.alloc HR6.out _)
        have HX7 : Hid (Lies (w6.alloc (.cells #[.pointer (some ⟨v, 0, none⟩)] 44)) w6.heap.size 0 #[.pointer (some ⟨v, 0, none⟩)]) := Lib.hid (Lies.new w6 _ _ (Below.refl _ _))
        have HB7 : Hid (w.heap.size ≤ (w6.alloc (.cells #[.pointer (some ⟨v, 0, none⟩)] 44)).heap.size) := Lib.hid HO7.out.bel.size
        have HI9 : Hid (i + 1 ≤ 100000) := Lib.hid (by omega)
        have HA7 := Lib.hid HO7.out.all
        have HQ1 : Hid ((#[.pointer (some ⟨v, 0, none⟩)] : Array Value).all (·.oneCell') = true) := Lib.hid (by simp [Value.oneCell'])
        unfold Pn.cells at HV7
        clear HO6 HV6 HR6
        generalize hlp : (List.range i).map (fun k => Value.pointer (some ⟨pb k, 0, none⟩)) = LP at *
        have HLP := Lib.hid hlp
        clear hlp
        go_upto_region 15 with (first
          | (at_builtin; (with_reducible refine wpList_append_el rfl (.tmp 36) (.tmp 37) 42 44 rfl (.pointer none) 1 8 Try.underlying42 info44 rfl (by decide) (by decide) w.heap.size A i C rfl LP HA7.out w6.heap.size rfl #[.pointer (some ⟨v, 0, none⟩)] rfl HX7.out HQ1.out HI9.out HB7.out ?_); intro A2 C2 w7 HA8 HG8)
          | fail)
        have HR8 : Hid (RB w7 g2 p) := Lib.hid (World.rowIs.of_block HR7.out (HG8.out.typ _ _ _ (rowIs_heap HR7.out) (by decide)))
        have HO9 : Hid (∀ (w8 : World), w8 = w7.alloc (.cells (rowOf 78 p.dc) 37) → w8.ownsRow w.heap.size 37 78 (.slice A' i C') i ((List.range i).flatMap (fun k => (rowOf 78 (P k).dc).toList)) ∧ Lies w8 w7.heap.size 0 (rowOf 78 p.dc) ∧ w.heap.size ≤ w8.heap.size) := Lib.hid (fun w8 e => by
          subst e
          have h7 := HG8.out.row HO7.out.want (show 37 ≠ 44 by decide)
          have hb : Below w7.heap.size w7 (w7.alloc (.cells (rowOf 78 p.dc) 37)) := (Below.refl _ _).alloc (Nat.le_refl _) _
          exact ⟨ownsRow_below h7 hb (Nat.le_refl _), Lies.new w7 _ _ (Below.refl _ _), Nat.le_trans HB7.out (Nat.le_trans HG8.out.size hb.size)⟩)
        have HQ2 : Hid ((rowOf 78 p.dc).all (·.oneCell') = true) := Lib.hid (rowOf_one p.dc_one)
        have HZ2 : Hid ((Value.agg (rowOf 78 Pn.zero.dc)).cells.size = 78) := Lib.hid (rowOf_size _ _)
        have HS2 : Hid ((rowOf 78 p.dc).size = 78) := Lib.hid (rowOf_size _ _)
        have IB := Lib.hid info37b
        generalize hlw : (List.range i).flatMap (fun k => (rowOf 78 (P k).dc).toList) = LW at *
        have HLW := Lib.hid hlw
        clear hlw
        go_wp2_with (first
          | (with_reducible refine wpList_load_rowIs rfl 37 (.tmp 7) rfl g2 rfl 37 78 p.dc HR8.out _ Try.underlying37 rfl I37.out ?_)
          | (with_reducible refine wpList_build_one rfl 43 37 (.tmp 40) rfl (.agg (rowOf 78 Pn.zero.dc)) 78 168 (rowOf 78 p.dc) rfl Try.underlying43 IB.out HS2.out (by decide) (by decide) ?_; obtain ⟨ho9, hl9, hs9⟩ := HO9.out _ rfl; have HP9 := Lib.hid ho9; have HL9 := Lib.hid hl9; have HS9 := Lib.hid hs9; clear ho9 hl9 hs9)
          | (at_builtin; (with_reducible refine wpList_append_el rfl (.tmp 39) (.tmp 41) 43 37 rfl (.agg (rowOf 78 Pn.zero.dc)) 78 168 Try.underlying43 IB.out HZ2.out (by decide) (by decide) w.heap.size A' i C' rfl LW HP9.out w7.heap.size rfl (rowOf 78 p.dc) HS2.out HL9.out HQ2.out HI9.out HS9.out ?_); intro A4 C4 w10 HA10 HG10)
          | fail)
        have HON : Hid (OS w (i + 1) (put1 pb i v) (putP P i p) A2 C2 A4 C4 w10) := Lib.hid (by
          have e1 := HLP.out
          have e2 := HLW.out
          subst e1 e2
          exact OS.more HO7.out HF.out HV7.out HG8.out HA8.out ((Below.refl w7.heap.size w7).alloc (Nat.le_refl _) _) HG10.out HA10.out)
        go_roundw
        case rel => exact ⟨i + 1, _, _, _, _, _, _, rfl, rfl, by go_num, HI2, HON⟩
        case measure => have := HDM.out; simp [intOf] <;> omega
      · obtain rfl : i = n := by omega
        have CO := Lib.hid (order_any A i C pb (fun _ => 0) P HO.out.fit (by omega) wr HO.out.ways)
        have HRW := Lib.hid HO.out.rways
        have CR : Hid (∀ w', Below wr.heap.size wr w' → _) := Lib.hid (fun w' hb => rorder_any A' i C' P HO.out.fit (by omega) w' (HO.out.rways.below hb (Nat.le_refl _)))
        have HB2 := Lib.hid HO.out.bel
        have hnn : ((i : Int) != (i : Int)) = false := by simp
        clear hlt hi HO HRW
        generalize (fun k => (P k).state) = s at *
        generalize (fun k => (P k).st.score) = sc at *
        go_upto_region 19 with (first
          | (go_at_call 8; (with_reducible refine (CO.out).mono ?_); rintro e w3 ⟨g, D, rfl, HS3, HD3, HB3, HG3⟩)
          | (go_at_call 9; (with_reducible refine (CR.out _ HB3.out).mono ?_); rintro e w4 ⟨A4, C4, O, rfl, HS4, HO4, HB4⟩)
          | fail)
        have HE := Lib.hid (HS3.out.only HS4.out)
        have HD4 : Hid (Nrow w4 g i D) := Lib.hid (World.rowIs.of_block HD3.out (HB4.out.block _ HD3.out.lt))
        have HB5 := Lib.hid (HB2.out.trans ((HB3.out.mono HB2.out.size).trans (HB4.out.mono (by have := HB2.out.size; have := HB3.out.size; omega))))
        clear CO CR HS3 HS4 HD3 HB3 HB4 HB2 HL
        go_wp2
        go_loopw [12] (fun s12 wx => ∃ j : Nat, s12 = .int .i64 (j : Int) ∧ Hid (j ≤ i) ∧ Hid (∃ m, wx = w4.drewN m)) (fun s12 _ => i - (intOf s12).toNat)
        case atStart => exact ⟨0, rfl, Lib.hid (Nat.zero_le _), Lib.hid ⟨0, rfl⟩⟩
        case round =>
          obtain ⟨j, rfl, HJ, HM⟩ := hrel
          have hj := HJ.out
          obtain ⟨md, hmd⟩ := HM.out
          have HMD := Lib.hid hmd
          by_cases hlt : j < i
          · have HO5 : Hid (OwnI wr w3.heap.size (.slice A4 i C4) i (chs O i)) := Lib.hid (by rw [hmd]; exact HO4.out.keep (fun _ _ => rfl))
            obtain ⟨g4, rfl, _, _, c0, _⟩ := HO5.out.at_ j hlt
            rw [chs_get O i j hlt, ← HE.out j hlt] at c0
            have c1 : wr.cell? ⟨g, j, none⟩ = some (.int .i64 (D j : Int)) := (World.rowIs.of_block HD4.out (by rw [hmd]; rfl) : Nrow wr g i D).cell (i := j) hlt
            have k1 : (j : Int) < i := by omega
            have k2 : (0 : Int) ≤ (j : Int) := by omega
            have k3 : (j : Int) ≤ 8 := by omega
            have HJ2 : Hid (j + 1 ≤ i) := Lib.hid hlt
            have HDM : Hid (i - (j + 1) < i - j) := Lib.hid (by omega)
            have hdd : ((D j : Int) != (D j : Int)) = false := by simp
            generalize D j = dj at *
            clear hlt hj HM HO5 hmd
            go_upto_region 22 with fail
            go_quiet (fail)
            go_wp2
            go_roundw
            case rel => exact ⟨j + 1, by go_num, HJ2, Lib.hid ⟨md + nq, by rw [HMD.out, World.drewN_drewN]⟩⟩
            case measure => have := HDM.out; simp [intOf] <;> omega
          · obtain rfl : j = i := by omega
            have HB6 : Hid (Below w.heap.size w wr) := Lib.hid (by rw [HMD.out]; exact below_drewN HB5.out md)
            clear hmd
            go_wp2
            go_ret
            exact ⟨rfl, HB6.out⟩
end Go.Proofs.Ytopnceniihgkpaa
