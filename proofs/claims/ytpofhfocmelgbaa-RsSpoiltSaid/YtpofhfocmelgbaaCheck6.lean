/-
  Own text: the document's Check, walked.
-/
import Derived.Test.YtpofhfocmelgbaaREncode
namespace Go.Proofs.Ytpofhfocmelgbaa
open Go.RowKit

/-- The shards' bytes, as they stand. -/
def datR (A : Nat → Option Addr) (L C : Nat → Nat) (q : Nat) : List Value := (List.range q).map (fun r : Nat => .slice (A r) (L r) (C r))
theorem datR_succ (A : Nat → Option Addr) (L C : Nat → Nat) (q : Nat) : datR A L C (q + 1) = datR A L C q ++ [.slice (A q) (L q) (C q)] := by unfold datR; rw [List.range_succ, List.map_append]; rfl
theorem datR_get {A : Nat → Option Addr} {L C : Nat → Nat} {q i : Nat} (h : i < q) : (datR A L C q)[i]? = some (.slice (A i) (L i) (C i)) := by unfold datR; simp [h]
theorem ShardsIn.drewN {w : World} {a : Option Addr} {n cap : Nat} {I : Nat → Int} {A : Nat → Option Addr} {L C : Nat → Nat} {X : Nat → List Int} (h : ShardsIn w a n cap I A L C X) (k : Nat) : ShardsIn (w.drewN k) a n cap I A L C X := h.below (below_drewN (Below.refl _ _) k) (Nat.le_refl _)
/-- What the document's Check says. -/
inductive CheckTo (I : Nat → Int) (L : Nat → Nat) (k N n : Nat) (w : World) (e : Ending) (w' : World) : Prop
  | index (h : ¬ GoodIx I N n) (he : e = .returned (.int .i64 62)) (hb : Below w.heap.size w w') : CheckTo I L k N n w e w'
  | few (h : GoodIx I N n) (hn : n < k) (he : e = .returned (.int .i64 63)) (hb : Below w.heap.size w w') : CheckTo I L k N n w e w'
  | length (h : GoodIx I N n) (hn : k ≤ n) (hl : ¬ EvenL n L) (he : e = .returned (.int .i64 61)) (hb : Below w.heap.size w w') : CheckTo I L k N n w e w'
  | good (h : GoodIx I N n) (hn : k ≤ n) (hl : EvenL n L) (he : e = .returned (.int .i64 0)) (hb : Below w.heap.size w w') : CheckTo I L k N n w e w'
set_option maxRecDepth 100000 in
set_option maxHeartbeats 1000000 in
theorem rcheck_any (k m n cap : Nat) (hkm : k + m ≤ 255) (a : Option Addr) (I : Nat → Int) (A : Nat → Option Addr) (L C : Nat → Nat) (X : Nat → List Int) (w : World) (hs : ShardsIn w a n cap I A L C X) (hn : n ≤ 1000) :
    Calls Try.prog 37 #[.int .i64 k, .int .i64 m, .slice a n cap] w (CheckTo I L k (k + m) n w) := by
  have HSH := Lib.hid hs
  obtain ⟨N, hN⟩ : ∃ N, k + m = N := ⟨_, rfl⟩
  have hNi : (k : Int) + m = (N : Nat) := by rw [← hN]; omega
  rw [hN]
  have hn63 := Nat.le_trans hs.fits hs.top
  clear hs hN
  go_enter Try.func37, Try.ntmps37
  go_wp2
  go_loopw [7, 8, 9] (fun v i _ wr => ∃ (q : Nat) (A0 : Option Addr) (C0 : Nat), q ≤ n ∧ i = .int .i64 (q : Nat) ∧ v = .slice A0 q C0 ∧ Hid (OwnS wr w.heap.size (.slice A0 q C0) q (datR A L C q)) ∧ Hid (GoodIx I N q) ∧ Hid (Below w.heap.size w wr)) (fun _ i _ _ => n - (intOf i).toNat)
  case atStart => exact ⟨0, none, 0, by omega, rfl, rfl, Lib.hid (OwnS.none _ _), Lib.hid (fun i h => absurd h (by omega)), Lib.hid (Below.refl _ _)⟩
  case round =>
    obtain ⟨q, A0, C0, hq, rfl, rfl, HO, HG, HB⟩ := hrel
    obtain ⟨wo, ho⟩ : ∃ wo, wo = wr := ⟨_, rfl⟩
    subst ho
    by_cases hlt : q < n
    · have q0 : (0 : Int) ≤ q := by omega
      have q1 : (q : Int) < n := by omega
      go_wp2
      go_loopw [9] (fun i wr => ∃ j nd : Nat, j ≤ q ∧ i = .int .i64 (j : Nat) ∧ Hid (∀ i, i < j → I i ≠ I q) ∧ wr = wo.drewN nd) (fun i _ => q - (intOf i).toNat)
      case atStart => exact ⟨0, 0, by omega, rfl, Lib.hid (fun i h => absurd h (by omega)), rfl⟩
      case round =>
        obtain ⟨j, nd, hj, rfl, HD, hwr⟩ := hrel
        have HSj := Lib.hid ((HSH.out.below HB.out (Nat.le_refl _)).drewN nd)
        have HOj : Hid (OwnS (wo.drewN nd) w.heap.size (.slice A0 q C0) q (datR A L C q)) := Lib.hid (row_below HO.out (below_drewN (Below.refl _ _) nd) (Nat.le_refl _))
        have HBj : Hid (Below w.heap.size w (wo.drewN nd)) := Lib.hid (below_drewN HB.out nd)
        have HBo : Hid (Below wo.heap.size wo (wo.drewN nd)) := Lib.hid (below_drewN (Below.refl _ _) nd)
        rw [← hwr] at HSj HOj HBj HBo
        have HW := Lib.hid hwr
        clear hwr
        obtain ⟨lb, lo, rfl, hlb, c1, c2⟩ := HSj.out.cells q hlt
        have hnum := HSj.out.num q hlt
        by_cases hlj : j < q
        · obtain ⟨lb', lo', e', _, c3, _⟩ := HSj.out.cells j (by omega)
          cases e'
          have j0 : (0 : Int) ≤ j := by omega
          have j1 : (j : Int) < n := by omega
          clear c2
          by_cases he : I j = I q
          · have HBAD : Hid (¬ GoodIx I N n) := Lib.hid (fun h => (h q hlt).2.2 j hlj he)
            have hb : (I j == I q) = true := by simp [he]
            generalize I j = x at *
            generalize I q = y at *
            clear he
            go_wp2
            go_quiet (fail)
            go_wp2
            go_ret
            exact .index HBAD.out rfl (below_drewN HBj.out _)
          · have hb : (I j == I q) = false := by simpa using he
            have HNE := Lib.hid he
            generalize hx : I j = x at *
            generalize hy : I q = y at *
            have HXX := Lib.hid (And.intro hx hy)
            clear he hx hy
            go_wp2
            go_quiet (fail)
            go_wp2
            go_roundw
            case rel =>
              rw [HW.out]
              exact ⟨j + 1, _, by omega, by go_num, Lib.hid (fun i hi => if e : i = j then by rw [e, HXX.out.1]; exact HNE.out else by exact HD.out i (by omega)), by rw [World.drewN_drewN]⟩
            case measure => simp [intOf]; omega
        · obtain rfl : j = q := by omega
          obtain ⟨x, hx⟩ : ∃ x, x = I j := ⟨_, rfl⟩
          have HX := Lib.hid hx
          rw [← hx] at c1 hnum
          clear hx
          by_cases h1 : x < 0
          · have HBAD : Hid (¬ GoodIx I N n) := Lib.hid (fun h => by have := (h j hlt).1; rw [← HX.out] at this; omega)
            go_wp2
            go_ret
            exact .index HBAD.out rfl HBj.out
          by_cases h2 : (N : Int) ≤ x
          · have HBAD : Hid (¬ GoodIx I N n) := Lib.hid (fun h => by have := (h j hlt).2.1; rw [← HX.out] at this; omega)
            go_wp2
            go_ret
            exact .index HBAD.out rfl HBj.out
          have HGS : Hid (GoodIx I N (j + 1)) := Lib.hid (fun i hi => by
            by_cases e : i = j
            · rw [e, ← HX.out]
              exact ⟨by omega, by omega, fun i' hi' => by rw [HX.out]; exact HD.out i' hi'⟩
            · exact HG.out i (by omega))
          obtain ⟨wi, hwi⟩ : ∃ wi, wi = wr := ⟨_, rfl⟩
          subst hwi
          have HXA : Hid (∀ o, OwnS (wi.alloc o) w.heap.size (.slice A0 j C0) j (datR A L C j)) := Lib.hid (fun o => row_alloc HOj.out o)
          have HNA : Hid (∀ o, w.heap.size ≤ (wi.alloc o).heap.size) := Lib.hid (fun o => Nat.le_trans HBj.out.size (Nat.le_of_lt (alloc_lt _ _)))
          have HLT : Hid (j + 1 ≤ 100000) := Lib.hid (by omega)
          go_wp2_with ((with_reducible refine wpList_append_sl (w := wi.alloc _) rfl (.tmp 49) (.tmp 55) rfl w.heap.size _ j rfl (datR A L C j) (HXA.out _) wi.heap.size rfl (A j) (L j) (C j) (new_box wi _ _) HLT.out (HNA.out _) ?_); intro v3 w3 hx3 hg3; obtain ⟨A3, C3, rfl, _⟩ := row_slice hx3; have HX3 := Lib.hid hx3; have HB3 := Lib.hid (row_grown (row_alloc HOj.out _) hg3 (b_put HBj.out _) (Nat.le_refl _) (HNA.out _)); clear hx3 hg3)
          go_roundw
          case rel => exact ⟨j + 1, A3, C3, by omega, by go_num, rfl, by rw [datR_succ]; exact HX3, HGS, HB3⟩
          case measure => simp [intOf]; omega
    · obtain rfl : q = n := by omega
      by_cases hnk : q < k
      · have h1 : (q : Int) < k := by omega
        go_wp2
        go_ret
        exact .few HG.out hnk rfl HB.out
      · have h1 : ¬ (q : Int) < k := by omega
        have hcol : ColsIn wo A0 q C0 A L C X := OwnS.cols A L C X HO.out (fun i hi => datR_get hi) (fun i hi => (HSH.out.below HB.out (Nat.le_refl _)).data i hi)
        by_cases he : EvenL q L
        · have HE := Lib.hid (rlength_any q C0 A0 A L C X wo hcol (by omega) true (fun _ => he) (fun h => nomatch h))
          have HEE := Lib.hid he
          clear hcol he
          go_wp2_with (go_at_call 33; refine HE.out.mono ?_; rintro e w3 ⟨rfl, nq, hw3⟩; have HW3 := Lib.hid hw3; clear hw3)
          go_ret
          exact .good HG.out (by omega) HEE.out rfl (by rw [HW3.out]; exact below_drewN HB.out nq)
        · have HE := Lib.hid (rlength_any q C0 A0 A L C X wo hcol (by omega) false (fun h => nomatch h) (fun _ => (evenL_dec q L).resolve_left he))
          have HEE := Lib.hid he
          clear hcol he
          go_wp2_with (go_at_call 33; refine HE.out.mono ?_; rintro e w3 ⟨rfl, nq, hw3⟩; have HW3 := Lib.hid hw3; clear hw3)
          go_ret
          exact .length HG.out (by omega) HEE.out rfl (by rw [HW3.out]; exact below_drewN HB.out nq)
end Go.Proofs.Ytpofhfocmelgbaa
