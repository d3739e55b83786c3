/-
  Own text: the document's Weight, walked.
    the document's At, walked.
    lists that the document's functions put together; first, length: walked.
    the document's Encode, walked.
  Own text: several slices appended; the code word of data. (Parts of Check6 and Shard6 until round 18.)
  Own text: the document's Check, walked.
  Own text: the document's Least, Decode, walked.
  Own text: the document's Decode of shards that are in order, walked (as in RDec6).
  Own text: shards in a row of the call's own; what shards of a code word tell (as in Shard6).
-/
import Derived.Test.YtjcbcdjfhcnhcaaK02
import Derived.Test.YtjcbcdjfhcnhcaaK01
import Derived.Test.YtjcbcdjfhcnhcaaK06
import Derived.Test.YtjcbcdjfhcnhcaaK07
import Derived.Test.YtjcbcdjfhcnhcaaK08
import Derived.Test.YtjcbcdjfhcnhcaaK09
import Derived.Test.YtjcbcdjfhcnhcaaK10
import Derived.BigQuiet
import Derived.StillTailTactics
namespace Go.Proofs.Ytjcbcdjfhcnhcaa
open Go.RowKit

theorem wup_ne' {P : Nat → Nat} {n j : Nat} (hP : ∀ i, i < n → P i < 256) (hd : ∀ i k, i < k → k < n → P i ≠ P k) (hj : j < n) : wup P j (P j) n ≠ 0 := by
  have e : wup P j (P j) n = wup (cap8 P) j (cap8 P j) n := by
    rw [cap8_eq (hP j hj)]
    exact wup_congr j (P j) n (fun i hi => (cap8_eq (hP i hi)).symm)
  rw [e]
  refine wup_ne (cap8_lt P) j n (fun i hi hne h => ?_)
  rw [cap8_eq (hP j hj), cap8_eq (hP i hi)] at h
  exact dist_ne hd hj hi (fun e => hne e.symm) h
theorem wrap8 (n : Nat) (h : n < 256) : IntKind.u8.wrap (n : Int) = n := by rw [IntKind.wrap_u8]; omega
theorem rmul_mu (a b : Nat) (ha : a < 256) (hb : b < 256) (w : World) : Calls Try.prog 90 #[.int .u8 a, .int .u8 b] w fun e w' => e = .returned (.int .u8 (mu a b)) ∧ w' = w :=
  (rmul_any a b ha hb w).mono fun _ _ h => ⟨by rw [mu_eq ha hb]; exact h.1, h.2.symm⟩
set_option maxRecDepth 100000 in
set_option maxHeartbeats 1000000 in
theorem rweight_any (a : Option Addr) (n c j x : Nat) (P : Nat → Nat) (w : World) (hI : Ints w a n (fun i => P i)) (hn : n ≤ 1000) (hP : ∀ i, i < n → P i < 256) (hd : ∀ i k, i < k → k < n → P i ≠ P k) (hj : j < n) (hx : x < 256) :
    Calls Try.prog 89 #[.slice a n c, .int .i64 j, .int .i64 x] w fun e w' => e = .returned (.int .u8 (lagw P n j x)) ∧ ∃ q, w' = w.drewN q := by
  obtain ⟨b, off, rfl, hbl, hcell⟩ : ∃ b off, a = some ⟨b, off, none⟩ ∧ b < w.heap.size ∧ ∀ i, i < n → w.cell? ⟨b, off + i, none⟩ = some (.int .i64 (P i)) := by
    rcases hI with h0 | h
    · omega
    · exact h
  have HC := Lib.hid hcell
  have HPP := Lib.hid hP
  have HNE := Lib.hid (wup_ne' hP hd hj)
  have HU0 : Hid (wup P j x 0 = 1 ∧ wup P j (P j) 0 = 1) := Lib.hid ⟨rfl, rfl⟩
  have HLG : Hid (lagw P n j x = mu (wup P j x n) (gi (wup P j (P j) n))) := Lib.hid rfl
  have HUL : Hid (∀ z i, wup P j z i < 256) := Lib.hid (fun z i => wup_lt P j z i)
  have HUS : Hid (∀ z i, wup P j z (i + 1) = if i = j then wup P j z i else mu (wup P j z i) (z ^^^ P i)) := Lib.hid (fun z i => rfl)
  have HPJ := Lib.hid (hP j hj)
  have wx := wrap8 x hx
  have j0 : (0 : Int) ≤ j := by omega
  have j1 : (j : Int) < n := by omega
  clear hI hcell hP hd
  go_enter Try.func89, Try.ntmps89
  go_wp2
  go_loopw [7, 8, 9] (fun u d i wr => ∃ q k : Nat, q ≤ n ∧ i = .int .i64 (q : Nat) ∧ u = .int .u8 (wup P j x q : Nat) ∧ d = .int .u8 (wup P j (P j) q : Nat) ∧ wr = w.drewN k) (fun _ _ i _ => n - (intOf i).toNat)
  case atStart => exact ⟨0, 0, by omega, rfl, by rw [HU0.out.1]; rfl, by rw [HU0.out.2]; rfl, rfl⟩
  case round =>
    obtain ⟨q, k, hq, rfl, rfl, rfl, hw⟩ := hrel
    have HW := Lib.hid hw
    have HCq : Hid (∀ i, i < n → wr.cell? ⟨b, off + i, none⟩ = some (.int .i64 (P i))) := Lib.hid (fun i hi => by rw [hw]; exact HC.out i hi)
    clear hw
    obtain ⟨wo, ho⟩ : ∃ wo, wo = wr := ⟨_, rfl⟩
    subst ho
    by_cases hlt : q < n
    · by_cases hqj : q = j
      · have e1 := HUS.out x q
        have e2 := HUS.out (P j) q
        rw [if_pos hqj] at e1 e2
        have hb : ((q : Int) != j) = false := by simp [hqj]
        have HE := Lib.hid (And.intro e1 e2)
        clear e1 e2 hqj
        go_wp2
        go_roundw
        case rel => exact ⟨q + 1, k, by omega, by go_num, by rw [HE.out.1], by rw [HE.out.2], HW.out⟩
        case measure => simp [intOf]; omega
      · have e1 := HUS.out x q
        have e2 := HUS.out (P j) q
        rw [if_neg hqj] at e1 e2
        have hqi : ¬ (q : Int) = j := by omega
        have hb : ((q : Int) != j) = true := by simpa using hqi
        have HE := Lib.hid (And.intro e1 e2)
        have c1 := HCq.out q hlt
        have c2 := HCq.out j hj
        have l1 := HUL.out x q
        have l2 := HUL.out (P j) q
        have lq := HPP.out q hlt
        have lj := HPJ.out
        clear e1 e2 hqj hqi
        generalize wup P j x q = U at *
        generalize wup P j (P j) q = D at *
        generalize hpq : P q = p at *
        generalize hpj : P j = r at *
        have wq := wrap8 p lq
        have wj := wrap8 r lj
        have b1 := bits_u8 x p hx lq
        have b2 := bits_u8 r p lj lq
        have CM1 := Lib.hid (fun w => rmul_mu U (x ^^^ p) l1 (xor_lt hx lq) w)
        have CM2 := Lib.hid (fun w => rmul_mu D (r ^^^ p) l2 (xor_lt lj lq) w)
        have q0 : (0 : Int) ≤ q := by omega
        have q1 : (q : Int) < n := by omega
        go_wp2_with (go_at_call 90; refine (CM1.out _).mono ?_; rintro e w1 ⟨rfl, rfl⟩)
        go_quiet ((go_at_call 90; exact Calls.quiet_of_same (CM2.out _)))
        go_wp2
        go_roundw
        case rel =>
          rw [HW.out]
          exact ⟨q + 1, _, by omega, by go_num, by rw [HE.out.1], by rw [HE.out.2], by rw [World.drewN_drewN]⟩
        case measure => simp [intOf]; omega
    · obtain rfl : q = n := by omega
      have l1 := HUL.out x q
      have l2 := HUL.out (P j) q
      have hne := HNE.out
      clear HC HCq HUS HU0
      generalize wup P j x q = U at *
      generalize wup P j (P j) q = D at *
      have CI := Lib.hid (fun w => rinv_any D l2 hne w)
      have CM := Lib.hid (fun w => rmul_mu U (gi D) l1 (gi_lt D) w)
      go_wp2_with first
        | (go_at_call 111; refine (CI.out _).mono ?_; rintro e w1 ⟨rfl, rfl⟩)
        | (go_at_call 90; refine (CM.out _).mono ?_; rintro e w1 ⟨rfl, rfl⟩)
      go_ret
      exact ⟨by rw [HLG.out]; rfl, k, HW.out⟩
end Go.Proofs.Ytjcbcdjfhcnhcaa
namespace Go.Proofs.Ytjcbcdjfhcnhcaa
open Go.RowKit

/-- Bytes in a block of their own. -/
def Bytesd (len : Nat) (F : Nat → Nat) (w : World) (e : Ending) (w' : World) : Prop :=
  ∃ g l, e = .returned (.slice (some ⟨g, 0, none⟩) len len) ∧ w.heap.size ≤ g ∧ Dat w' g len l ∧ (∀ c, c < len → co l c = F c) ∧ Below w.heap.size w w'
theorem Bytes.at_co {w : World} {a : Option Addr} {n : Nat} {l : List Int} (h : Bytes w a n l) (hn : 0 < n) : ∃ b off, a = some ⟨b, off, none⟩ ∧ b < w.heap.size ∧ ∀ i, i < n → w.cell? ⟨b, off + i, none⟩ = some (.int .u8 (co l i : Int)) := by
  rcases h.cell with h0 | ⟨_, b, off, e, hl, hc⟩
  · omega
  · exact ⟨b, off, e, hl, fun i hi => by rw [hc i hi, (show By l from h.range).get]⟩
set_option maxRecDepth 100000 in
set_option maxHeartbeats 1000000 in
theorem rat6_any (a aC : Option Addr) (n c capC x len : Nat) (P : Nat → Nat) (A : Nat → Option Addr) (L C : Nat → Nat) (X : Nat → List Int) (w : World) (hI : Ints w a n (fun i => P i)) (hn1 : 1 ≤ n) (hn : n ≤ 1000) (hP : ∀ i, i < n → P i < 256) (hd : ∀ i k, i < k → k < n → P i ≠ P k) (hx : x < 256)
    (N : Nat) (hN : n ≤ N) (hc : ColsIn w aC N capC A L C X) (hL : ∀ j, j < n → L j = len) (hlen : len ≤ 1200) :
    Calls Try.prog 69 #[.slice a n c, .slice aC N capC, .int .i64 x] w (Bytesd len (fun i => xs (fun j => mu (lagw P n j x) (co (X j) i)) n) w) := by
  have hmk := fun w => run_make_row' (P := Try.prog) 42 5 (.int .u8 0) 1 Try.underlying42 info_u8 rfl .i64 .i64 len (by omega) (by omega) w
  have HWT : Hid (∀ w' j, Below w.heap.size w w' → j < n → Calls Try.prog 89 #[.slice a n c, .int .i64 (j : Nat), .int .i64 x] w' fun e w'' => e = .returned (.int .u8 (lagw P n j x)) ∧ ∃ q, w'' = w'.drewN q) := Lib.hid (fun w' j hb hj => rweight_any a n c j x P w' (hI.below hb (Nat.le_refl _)) hn hP hd hj hx)
  have HCO := Lib.hid hc
  have HLL := Lib.hid hL
  have HMR : Hid (Dat (w.alloc (.cells (madeCells #[.int .u8 0] len) 5)) w.heap.size len (List.replicate len 0)) := Lib.hid (by
    have := (made_row w len 5).dat (by_zero len)
    rwa [List.length_replicate] at this)
  have HB0 : Hid (Below w.heap.size w (w.alloc (.cells (madeCells #[.int .u8 0] len) 5))) := Lib.hid (below_put w _)
  obtain ⟨E, hE⟩ : ∃ E : Nat → Nat → Nat, E = fun q i => xs (fun j => mu (lagw P n j x) (co (X j) i)) q := ⟨_, rfl⟩
  have HES : Hid (∀ q i, E (q + 1) i = E q i ^^^ mu (lagw P n q x) (co (X q) i)) := Lib.hid (fun q i => by rw [hE]; rfl)
  have HE0 : Hid (∀ i, E 0 i = 0) := Lib.hid (fun i => by rw [hE]; rfl)
  have HWL : Hid (∀ j, lagw P n j x < 256) := Lib.hid (fun j => lagw_lt P n j x)
  have hEE : (fun i => xs (fun j => mu (lagw P n j x) (co (X j) i)) n) = E n := by rw [hE]
  rw [hEE]
  obtain ⟨⟨b2, o2, rfl, hb2, hc0⟩, _⟩ := hc.2.2.2 0 (by omega)
  have hN0 : (0 : Int) < N := by omega
  rw [hL 0 (by omega), Nat.add_zero] at hc0
  clear hI hc hL hP hd hE hEE hb2
  unfold Bytesd
  go_enter Try.func69, Try.ntmps69
  go_wp2
  clear hmk hc0
  generalize w.alloc (.cells (madeCells #[.int .u8 0] len) 5) = w1 at *
  generalize hgg : w.heap.size = g at HMR ⊢
  have HGG := Lib.hid hgg
  rw [hgg] at HB0
  clear hgg
  go_loopw [8, 9, 10] (fun jv _ _ wr => ∃ (q : Nat) (lc : List Int), q ≤ n ∧ jv = .int .i64 (q : Nat) ∧ Hid (Dat wr g len lc) ∧ Hid (∀ i, i < len → co lc i = E q i) ∧ Hid (Below g w wr)) (fun jv _ _ _ => n - (intOf jv).toNat)
  case atStart => exact ⟨0, _, by omega, rfl, HMR, Lib.hid (fun i _ => by rw [co_zero, HE0.out]), HB0⟩
  case round =>
    clear HMR HB0
    obtain ⟨q, lc, hq, rfl, HD, HC, HB⟩ := hrel
    obtain ⟨wo, ho⟩ : ∃ wo, wo = wr := ⟨_, rfl⟩
    subst ho
    by_cases hlt : q < n
    · have HBw : Hid (Below w.heap.size w wo) := Lib.hid (by rw [HGG.out]; exact HB.out)
      have HWq := Lib.hid (HWT.out wo q HBw.out hlt)
      have hV := HWL.out q
      have HES2 : Hid (∀ i, E (q + 1) i = E q i ^^^ mu (lagw P n q x) (co (X q) i)) := Lib.hid (fun i => HES.out q i)
      generalize lagw P n q x = V at *
      go_wp2_with ((with_reducible refine HWq.out.mono ?_); rintro e w2 ⟨rfl, nd, hw2⟩; have HW2 := Lib.hid hw2; clear hw2)
      have HD2 : Hid (Dat w2 g len lc) := Lib.hid (by rw [HW2.out]; exact HD.out.keep rfl)
      have HB2 : Hid (Below g w w2) := Lib.hid (by rw [HW2.out]; exact below_drewN HB.out nd)
      clear HW2 HD HB HBw
      go_loopw [10] (fun iv wr => ∃ (i : Nat) (ld : List Int), i ≤ len ∧ iv = .int .i64 (i : Nat) ∧ Hid (Dat wr g len ld) ∧ Hid (∀ d, d < len → co ld d = if d < i then E (q + 1) d else E q d) ∧ Hid (Below g w wr)) (fun iv _ => len - (intOf iv).toNat)
      case atStart => exact ⟨0, lc, by omega, rfl, HD2, Lib.hid (fun d hd => by rw [if_neg (by omega)]; exact HC.out d hd), HB2⟩
      case round =>
        clear HD2 HB2
        obtain ⟨i, ld, hi, rfl, HD, HCd, HB⟩ := hrel
        obtain ⟨wi, hwi⟩ : ∃ wi, wi = wr := ⟨_, rfl⟩
        subst hwi
        by_cases hli : i < len
        · have HBw : Hid (Below w.heap.size w wi) := Lib.hid (by rw [HGG.out]; exact HB.out)
          obtain ⟨⟨b3, o3, e3, _, hc3⟩, hs3⟩ := (HCO.out.below HBw.out (Nat.le_refl _)).2.2.2 q (by omega)
          cases e3
          rw [HLL.out q hlt] at hc3 hs3
          obtain ⟨pb, po, hAq, hpb, hcx⟩ := hs3.bytes.at_co (by omega)
          rw [hAq] at hc3
          have cx := hcx i hli
          have c0 := HD.out.cell i hli
          have f0 := HD.out.frozen i
          have l0 := HD.out.by_.lt i
          have lx := (show By (X q) from hs3.bytes.range).lt i
          have HST := Lib.hid (fun v hv => HD.out.set i v hv)
          have HCS := Lib.hid (fun v d => co_set ld i v d (by rw [HD.out.size]; exact hli))
          have HCI : Hid (co ld i = E q i) := Lib.hid (by rw [HCd.out i hli, if_neg (by omega)])
          have HEi : Hid (E (q + 1) i = E q i ^^^ mu V (co (X q) i)) := Lib.hid (HES2.out i)
          have i0 : (0 : Int) ≤ i := by omega
          have i1 : (i : Int) < len := by omega
          have q0 : (0 : Int) ≤ q := by omega
          have q1 : (q : Int) < N := by omega
          clear hcx hs3 hAq
          generalize co ld i = u at *
          generalize co (X q) i = y at *
          have CM := Lib.hid (fun w => rmul_mu V y hV lx w)
          have hmy := mu_lt V y
          generalize mu V y = z at *
          have bx := bits_u8 u z l0 hmy
          have HXL := Lib.hid (xor_lt l0 hmy)
          go_upto_region 9 with fail
          refine wp_region_still_tail 17 (by kernel_rfl) (by kernel_rfl) ?_
          simp only [List.take_succ_cons, List.take_zero, List.drop_succ_cons, List.drop_zero]
          iterate 14 still_step
          still_call (CM.out _)
          iterate 2 still_step
          refine wpStill_nil ?_
          change wpList _ _ _ _ _ wi.drew
          go_wp2
          go_roundw
          case rel =>
            refine ⟨i + 1, ld.set i ((u ^^^ z : Nat) : Int), by omega, by go_num, Lib.hid ((HST.out (u ^^^ z) HXL.out).keep rfl), Lib.hid (fun d hd => ?_), Lib.hid (HB.out.setCell (p := ⟨g, i, none⟩) (Nat.le_refl _) _).drew⟩
            rw [HCS.out]
            by_cases e : d = i
            · rw [if_pos e, if_pos (by omega), e, HEi.out, HCI.out]
            · rw [if_neg e, HCd.out d hd]
              by_cases g1 : d < i
              · rw [if_pos g1, if_pos (by omega)]
              · rw [if_neg g1, if_neg (by omega)]
          case measure => simp [intOf]; omega
        · obtain rfl : i = len := by omega
          go_wp2
          go_roundw
          case rel => exact ⟨q + 1, ld, by omega, by go_num, HD, Lib.hid (fun d hd => by rw [HCd.out d hd, if_pos hd]), HB⟩
          case measure => simp [intOf]; omega
    · obtain rfl : q = n := by omega
      go_wp2
      go_ret
      exact ⟨g, lc, rfl, by rw [HGG.out]; exact Nat.le_refl _, HD.out, HC.out, by rw [HGG.out]; exact HB.out⟩
end Go.Proofs.Ytjcbcdjfhcnhcaa
namespace Go.Proofs.Ytjcbcdjfhcnhcaa
open Go.RowKit

theorem dat_other {w w' : World} {base g n m : Nat} {v : Value} {l : List Value} {d : List Int} (h : OwnS w base v n l) (hd : Dat w g m d) (hg : w.grownBy w' v.ownBlock) : Dat w' g m d := by
  refine hd.keep (hg.block g hd.lt (fun hk => ?_))
  rcases h.2 with ⟨rfl, _⟩ | ⟨g', cap, cur, rfl, _, hh, _⟩
  · exact absurd hk (by simp [Value.ownBlock])
  · have hk2 : g = g' := by simpa [Value.ownBlock] using hk
    obtain ⟨cu, hm, _⟩ := hd.mem
    rw [hk2, hh] at hm
    simp only [Option.some.injEq, Obj.cells.injEq] at hm
    exact absurd hm.2.1 (by decide)
/-- A list of lists of bytes, of the call's own, so far. -/
def OutS (w : World) (base : Nat) (v : Value) (q len : Nat) (E : Nat → Nat → Nat) : Prop :=
  ∃ l, OwnS w base v q l ∧ ∀ i, i < q → ∃ g d, l[i]? = some (.slice (some ⟨g, 0, none⟩) len len) ∧ Dat w g len d ∧ ∀ c, c < len → co d c = E i c
theorem OutS.none (w : World) (base len : Nat) (E : Nat → Nat → Nat) : OutS w base (.slice none 0 0) 0 len E := ⟨[], OwnS.none w base, fun i hi => absurd hi (by omega)⟩
theorem OutS.below {w w' : World} {base q len : Nat} {v : Value} {E : Nat → Nat → Nat} (h : OutS w base v q len E) (hb : Below w.heap.size w w') : OutS w' base v q len E := by
  obtain ⟨l, h1, h2⟩ := h
  exact ⟨l, row_below h1 hb (Nat.le_refl _), fun i hi => by
    obtain ⟨g, d, e1, e2, e3⟩ := h2 i hi
    exact ⟨g, d, e1, e2.below hb e2.lt, e3⟩⟩
theorem OutS.slice {w : World} {base q len : Nat} {v : Value} {E : Nat → Nat → Nat} (h : OutS w base v q len E) : ∃ A C, v = .slice A q C ∧ q ≤ C ∧ C ≤ maxLen ∧ (A = Option.none → C = 0) := by
  obtain ⟨l, h1, _⟩ := h
  exact row_slice h1
theorem OutS.step {w w' : World} {base q len g : Nat} {v v' : Value} {E : Nat → Nat → Nat} {l : List Value} {d : List Int} (h1 : OwnS w base v q l) (h2 : ∀ i, i < q → ∃ g d, l[i]? = some (.slice (some ⟨g, 0, Option.none⟩) len len) ∧ Dat w g len d ∧ ∀ c, c < len → co d c = E i c)
    (hd : Dat w g len d) (hc : ∀ c, c < len → co d c = E q c) (h3 : OwnS w' base v' (q + 1) (l ++ [.slice (some ⟨g, 0, Option.none⟩) len len])) (hg : w.grownBy w' v.ownBlock) : OutS w' base v' (q + 1) len E := by
  have hl : l.length = q := by have := h1.1; simpa using this
  refine ⟨_, h3, fun i hi => ?_⟩
  by_cases e : i = q
  · exact ⟨g, d, by rw [e, List.getElem?_append_right (by omega), hl, Nat.sub_self]; rfl, dat_other h1 hd hg, by rw [e]; exact hc⟩
  · obtain ⟨g', d', e1, e2, e3⟩ := h2 i (by omega)
    exact ⟨g', d', by rw [List.getElem?_append_left (by omega)]; exact e1, dat_other h1 e2 hg, e3⟩
/-- Such a list, as columns. -/
theorem OutS.cols {w : World} {base q len C0 : Nat} {A0 : Option Addr} {E : Nat → Nat → Nat} (h : OutS w base (.slice A0 q C0) q len E) (hlen : len ≤ 1200) : ∃ (A : Nat → Option Addr) (Y : Nat → List Int), ColsIn w A0 q C0 A (fun _ => len) (fun _ => len) Y ∧ ∀ i, i < q → ∀ c, c < len → co (Y i) c = E i c := by
  obtain ⟨l, h1, h2⟩ := h
  have h2' : ∀ i, ∃ (g : Nat) (d : List Int), i < q → l[i]? = some (.slice (some ⟨g, 0, Option.none⟩) len len) ∧ Dat w g len d ∧ ∀ c, c < len → co d c = E i c := fun i => by
    by_cases hi : i < q
    · obtain ⟨g, d, hh⟩ := h2 i hi
      exact ⟨g, d, fun _ => hh⟩
    · exact ⟨0, [], fun e => absurd e hi⟩
  obtain ⟨G, hG⟩ := Classical.axiomOfChoice h2'
  obtain ⟨D, hD⟩ := Classical.axiomOfChoice hG
  exact ⟨fun i => some ⟨G i, 0, Option.none⟩, D, OwnS.cols _ _ _ _ h1 (fun i hi => (hD i hi).1) (fun i hi => (hD i hi).2.1.sl (by omega)), fun i hi => (hD i hi).2.2⟩
/-- The first numbers. -/
def numsF (q : Nat) : List Int := (List.range q).map (fun i : Nat => (i : Int))
set_option maxRecDepth 100000 in
theorem rfirst_any (n : Nat) (hn : n ≤ 1000) (w : World) : Calls Try.prog 70 #[.int .i64 n] w fun e w' => ∃ A C, e = .returned (.slice A n C) ∧ Ints w' A n (fun i => (nid i : Nat)) ∧ Below w.heap.size w w' := by
  have HNG : Hid (∀ q : Nat, numsF q ++ [(q : Int)] = numsF (q + 1)) := Lib.hid (fun q => by unfold numsF; rw [List.range_succ, List.map_append]; rfl)
  have HGE : Hid (∀ q i : Nat, i < q → (numsF q).getD i 0 = (i : Int)) := Lib.hid (fun q i hi => by unfold numsF; simp [List.getD_eq_getElem?_getD, hi])
  go_enter Try.func70, Try.ntmps70
  go_wp2
  go_loopw [3, 4] (fun v i wr => ∃ (q : Nat) (A : Option Addr) (C : Nat), q ≤ n ∧ i = .int .i64 (q : Nat) ∧ v = .slice A q C ∧ Hid (OwnI wr w.heap.size (.slice A q C) q (numsF q)) ∧ Hid (Below w.heap.size w wr)) (fun _ i _ => n - (intOf i).toNat)
  case atStart => exact ⟨0, none, 0, by omega, rfl, rfl, Lib.hid (OwnI.none _ _), Lib.hid (Below.refl _ _)⟩
  case round =>
    obtain ⟨q, A, C, hq, rfl, rfl, HO, HB⟩ := hrel
    obtain ⟨wo, ho⟩ : ∃ wo, wo = wr := ⟨_, rfl⟩
    subst ho
    by_cases hlt : q < n
    · have HXA : Hid (∀ o, OwnI (wo.alloc o) w.heap.size (.slice A q C) q (numsF q)) := Lib.hid (fun o => row_alloc HO.out o)
      have HNA : Hid (∀ o, w.heap.size ≤ (wo.alloc o).heap.size) := Lib.hid (fun o => Nat.le_trans HB.out.size (Nat.le_of_lt (alloc_lt _ _)))
      have HLT : Hid (q + 1 ≤ 100000) := Lib.hid (by omega)
      go_wp2_with ((with_reducible refine wpList_append_int2 (w := wo.alloc _) rfl (.tmp 10) (.tmp 12) rfl w.heap.size _ q rfl (numsF q) (HXA.out _) wo.heap.size rfl q (new_box wo _ _) HLT.out (HNA.out _) ?_); intro v3 w3 hx3 hg3; obtain ⟨A3, C3, rfl, _⟩ := row_slice hx3; have HX3 := Lib.hid hx3; have HB3 := Lib.hid (row_grown (row_alloc HO.out _) hg3 (b_put HB.out _) (Nat.le_refl _) (HNA.out _)); clear hx3 hg3)
      go_roundw
      case rel => exact ⟨q + 1, A3, C3, by omega, by go_num, rfl, by rw [← HNG.out]; exact HX3, HB3⟩
      case measure => simp [intOf]; omega
    · obtain rfl : q = n := by omega
      go_wp2
      go_ret
      refine ⟨A, C, rfl, ?_, HB.out⟩
      rcases HO.out.ints with h0 | ⟨b, off, e, hl, hc⟩
      · exact .inl h0
      · exact .inr ⟨b, off, e, hl, fun i hi => by rw [hc i hi]; exact congrArg (fun z => some (Value.int .i64 z)) (HGE.out q i hi)⟩
set_option maxRecDepth 100000 in
theorem rlength_any (n cap : Nat) (a : Option Addr) (A : Nat → Option Addr) (L C : Nat → Nat) (X : Nat → List Int) (w : World) (hc : ColsIn w a n cap A L C X) (hn : n ≤ 9223372036854775807) (v : Bool) (hv : v = true → EvenL n L) (hv2 : v = false → ∃ j, j < n ∧ (L j ≠ L 0 ∨ 1200 < L j)) :
    Calls Try.prog 68 #[.slice a n cap] w fun e w' => e = .returned (.bool v) ∧ ∃ q, w' = w.drewN q := by
  have HV := Lib.hid (And.intro hv hv2)
  have HX := Lib.hid hc
  clear hv hv2 hc
  go_enter Try.func68, Try.ntmps68
  go_wp2
  go_loopw [3] (fun i wr => ∃ j k : Nat, j ≤ n ∧ i = .int .i64 (j : Nat) ∧ Hid (EvenL j L) ∧ wr = w.drewN k) (fun i _ => n - (intOf i).toNat)
  case atStart => exact ⟨0, 0, by omega, rfl, Lib.hid (fun _ h => by omega), rfl⟩
  case round =>
    obtain ⟨j, k, hj, rfl, HS, hw⟩ := hrel
    have HXk := Lib.hid (HX.out.drewN k)
    rw [← hw] at HXk
    have HW := Lib.hid hw
    clear hw
    by_cases hlt : j < n
    · obtain ⟨⟨h, off, rfl, _, c1⟩, s1⟩ := HXk.out.2.2.2 j hlt
      obtain ⟨⟨h', off', e', _, c2⟩, _⟩ := HXk.out.2.2.2 0 (by omega)
      cases e'
      rw [Nat.add_zero] at c2
      have m1 := Nat.le_trans s1.cap s1.top
      have j0 : (0 : Int) ≤ j := by omega
      have j1 : (j : Int) < n := by omega
      have hn0 : (0 : Int) < n := by omega
      clear s1
      by_cases hlong : 1200 < L j
      · have HBAD : Hid (∃ j, j < n ∧ (L j ≠ L 0 ∨ 1200 < L j)) := Lib.hid ⟨j, hlt, .inr hlong⟩
        have hd : decide ((1200 : Int) < (L j : Nat)) = true := decide_eq_true (by omega)
        clear hlong
        go_wp2
        go_quiet (fail)
        go_wp2
        go_ret
        rw [HW.out]
        refine ⟨ret_bool ?_, _, by rw [World.drewN_drewN]⟩
        cases v with
        | false => rfl
        | true =>
          obtain ⟨q, hq, hq2⟩ := HBAD.out
          have := HV.out.1 rfl q hq
          omega
      · have hd : decide ((1200 : Int) < (L j : Nat)) = false := decide_eq_false (by omega)
        by_cases hne : L j = L 0
        · have HGD : Hid (L j = L 0 ∧ L j ≤ 1200) := Lib.hid ⟨hne, by omega⟩
          have hb : (((L j : Nat) : Int) != (L 0 : Nat)) = false := by rw [hne]; simp
          clear hlong hne
          go_wp2
          go_quiet (fail)
          go_wp2
          go_roundw
          case rel =>
            rw [HW.out]
            exact ⟨j + 1, _, by omega, by go_num, Lib.hid (fun i hi => if e : i = j then e ▸ HGD.out else HS.out i (by omega)), by rw [World.drewN_drewN]⟩
          case measure => simp [intOf]; omega
        · have HBAD : Hid (∃ j, j < n ∧ (L j ≠ L 0 ∨ 1200 < L j)) := Lib.hid ⟨j, hlt, .inl hne⟩
          have hb : (((L j : Nat) : Int) != (L 0 : Nat)) = true := by
            have : ¬ ((L j : Nat) : Int) = (L 0 : Nat) := by omega
            simpa using this
          clear hlong hne
          go_wp2
          go_quiet (fail)
          go_wp2
          go_ret
          rw [HW.out]
          refine ⟨ret_bool ?_, _, by rw [World.drewN_drewN]⟩
          cases v with
          | false => rfl
          | true =>
            obtain ⟨q, hq, hq2⟩ := HBAD.out
            have := HV.out.1 rfl q hq
            omega
    · obtain rfl : j = n := by omega
      go_wp2
      go_ret
      rw [HW.out]
      refine ⟨ret_bool ?_, k, rfl⟩
      cases v with
      | true => rfl
      | false =>
        obtain ⟨q, hq, hq2⟩ := HV.out.2 rfl
        have := HS.out q hq
        omega
end Go.Proofs.Ytjcbcdjfhcnhcaa
namespace Go.Proofs.Ytjcbcdjfhcnhcaa
open Go.RowKit

/-- What the document's lists are. -/
def Listed (q len : Nat) (E : Nat → Nat → Nat) (w : World) (e : Ending) (w' : World) : Prop :=
  ∃ A C, e = .returned (.tuple #[.slice A q C, .int .i64 0]) ∧ OutS w' w.heap.size (.slice A q C) q len E ∧ Below w.heap.size w w'
set_option maxRecDepth 100000 in
set_option maxHeartbeats 1000000 in
theorem rencode_some (k m cap : Nat) (hk1 : 1 ≤ k) (hkm : k + m ≤ 255) (a : Option Addr) (A : Nat → Option Addr) (L C : Nat → Nat) (X : Nat → List Int) (w : World) (hc : ColsIn w a k cap A L C X) (he : EvenL k L) :
    Calls Try.prog 34 #[.int .i64 k, .int .i64 m, .slice a k cap] w (Listed m (L 0) (fun i c => xs (fun j => mu (lagw nid k j (k + i)) (co (X j) c)) k) w) := by
  have HE := Lib.hid (rlength_any k cap a A L C X w hc (by omega) true (fun _ => he) (fun h => nomatch h))
  have HF := Lib.hid (fun w => rfirst_any k (by omega) w)
  have HAT : Hid (∀ w' Af Cf i, Below w.heap.size w w' → i < m → Ints w' Af k (fun i => (nid i : Nat)) → Calls Try.prog 69 #[.slice Af k Cf, .slice a k cap, .int .i64 (k + i : Nat)] w' (Bytesd (L 0) (fun c => xs (fun j => mu (lagw nid k j (k + i)) (co (X j) c)) k) w')) :=
    Lib.hid (fun w' Af Cf i hb hi hf => rat6_any Af a k Cf cap (k + i) (L 0) nid A L C X w' hf hk1 (by omega) (fun i hi => by show i < 256; omega) (fun i j h1 _ e => by have e2 : i = j := e; omega) (by omega) k (Nat.le_refl _) (hc.below hb (Nat.le_refl _)) (fun j hj => (he j hj).1) (by have := (he 0 (by omega)).2; exact this))
  obtain ⟨E, hE⟩ : ∃ E : Nat → Nat → Nat, E = fun i c => xs (fun j => mu (lagw nid k j (k + i)) (co (X j) c)) k := ⟨_, rfl⟩
  have hEE : ∀ i c, xs (fun j => mu (lagw nid k j (k + i)) (co (X j) c)) k = E i c := fun i c => by rw [hE]
  simp only [hEE] at HAT ⊢
  generalize L 0 = len at *
  clear hE hEE hc he
  unfold Bytesd at HAT
  unfold Listed
  go_enter Try.func34, Try.ntmps34
  go_wp2_with (go_at_call 68; refine HE.out.mono ?_; rintro e w1 ⟨rfl, nq, hw1⟩; have HB1 : Hid (Below w.heap.size w w1) := Lib.hid (by rw [hw1]; exact below_drewN (Below.refl _ _) _); clear hw1)
  go_loopw [8, 9] (fun v i wr => ∃ (q : Nat) (A0 : Option Addr) (C0 : Nat), q ≤ m ∧ i = .int .i64 (q : Nat) ∧ v = .slice A0 q C0 ∧ Hid (OutS wr w.heap.size (.slice A0 q C0) q len E) ∧ Hid (Below w.heap.size w wr)) (fun _ i _ => m - (intOf i).toNat)
  case atStart => exact ⟨0, none, 0, by omega, rfl, rfl, Lib.hid (OutS.none _ _ _ _), HB1⟩
  case round =>
    clear HB1
    obtain ⟨q, A0, C0, hq, rfl, rfl, HO, HB⟩ := hrel
    obtain ⟨wo, ho⟩ : ∃ wo, wo = wr := ⟨_, rfl⟩
    subst ho
    by_cases hlt : q < m
    · have hki : (k : Int) + q = ((k + q : Nat) : Int) := by omega
      have HLT : Hid (q + 1 ≤ 100000) := Lib.hid (by omega)
      have HATq := Lib.hid (fun w' Af Cf hb hf => HAT.out w' Af Cf q hb hlt hf)
      generalize k + q = kq at *
      go_wp2_with first
        | (go_at_call 70; refine (HF.out _).mono ?_; rintro e w2 ⟨Af, Cf, rfl, hi, hb⟩; have HI := Lib.hid hi; have HB2 := Lib.hid hb; clear hi hb)
        | (go_at_call 69; refine (HATq.out w2 Af Cf (b_on HB.out HB2.out) HI.out).mono ?_; rintro e w3 ⟨g3, l3, rfl, hg3, hd3, hc3, hb3⟩; have HD3 := Lib.hid hd3; have HC3 := Lib.hid hc3; have HB3 := Lib.hid (b_on HB.out (b_on HB2.out hb3)); have HO3 := Lib.hid (HO.out.below (b_on HB2.out hb3)); clear hg3 hd3 hc3 hb3; obtain ⟨l, ho1, ho2⟩ := HO3.out; have HOA : Hid (∀ o, OwnS (w3.alloc o) w.heap.size (.slice A0 q C0) q l) := Lib.hid (fun o => row_alloc ho1 o); have HO2 := Lib.hid ho2; have HNA : Hid (∀ o, w.heap.size ≤ (w3.alloc o).heap.size) := Lib.hid (fun o => Nat.le_trans HB3.out.size (Nat.le_of_lt (alloc_lt _ _))); clear ho1 ho2)
        | ((with_reducible refine wpList_append_sl (w := w3.alloc _) rfl (.tmp 22) (.tmp 30) rfl w.heap.size _ q rfl l (HOA.out _) w3.heap.size rfl (some ⟨g3, 0, none⟩) len len (new_box w3 _ _) HLT.out (HNA.out _) ?_); intro v4 w4 hy4 hg4; obtain ⟨A4, C4, rfl, _⟩ := row_slice hy4; have HY4 := Lib.hid (OutS.step (HOA.out _) (fun i hi => (HO2.out i hi).imp fun g h => h.imp fun d h => ⟨h.1, h.2.1.keep (Below.heap_alloc _ _ _ h.2.1.lt), h.2.2⟩) (HD3.out.keep (Below.heap_alloc _ _ _ HD3.out.lt)) HC3.out hy4 hg4); have HB4 := Lib.hid (row_grown (HOA.out _) hg4 (b_put HB3.out _) (Nat.le_refl _) (HNA.out _)); clear hy4 hg4)
      go_roundw
      case rel => exact ⟨q + 1, A4, C4, by omega, by go_num, rfl, HY4, HB4⟩
      case measure => simp [intOf]; omega
    · obtain rfl : q = m := by omega
      go_wp2
      go_ret2
      exact ⟨A0, C0, rfl, HO.out, HB.out⟩
end Go.Proofs.Ytjcbcdjfhcnhcaa
namespace Go.Proofs.Ytjcbcdjfhcnhcaa
open Go.RowKit

/-- The shards' bytes, as they stand. -/
def datR (A : Nat → Option Addr) (L C : Nat → Nat) (q : Nat) : List Value := (List.range q).map (fun r : Nat => .slice (A r) (L r) (C r))
theorem OwnS.lit (w : World) (base : Nat) (h : base ≤ w.heap.size) : OwnS (w.alloc (.cells #[] 42)) base (.slice (some ⟨w.heap.size, 0, Option.none⟩) 0 0) 0 [] :=
  ⟨rfl, .inr ⟨w.heap.size, 0, #[], rfl, h, Go.Deep.blk_alloc_new _ _, by omega, by omega, rfl, rfl⟩⟩
/-- The code word of data: its value at a place. -/
def wordE (D : Nat → List Int) (k x c : Nat) : Nat := xs (fun j => mu (lagw nid k j x) (co (D j) c)) k
theorem word_first {D : Nat → List Int} {k x : Nat} (hk : k ≤ 256) (hD : ∀ j, By (D j)) (hx : x < k) (c : Nat) : wordE D k x c = co (D x) c := weights_first hk (fun j => co (D j) c) (fun j => (hD j).lt c) hx
theorem wordE_congr {D D' : Nat → List Int} {k x c : Nat} (h : ∀ j, j < k → co (D j) c = co (D' j) c) : wordE D k x c = wordE D' k x c :=
  xs_congr k (fun j hj => by show mu (lagw nid k j x) (co (D j) c) = mu (lagw nid k j x) (co (D' j) c); rw [h j hj])
theorem word_first2 {D : Nat → List Int} {k x : Nat} (hk : k ≤ 256) (hD : ∀ j, j < k → By (D j)) (hx : x < k) (c : Nat) : wordE D k x c = co (D x) c := by
  have h := word_first (D := fun j => if j < k then D j else []) hk (fun j => by
    by_cases g : j < k
    · show By (if j < k then D j else []); rw [if_pos g]; exact hD j g
    · show By (if j < k then D j else []); rw [if_neg g]; exact By.nil) hx c
  rw [wordE_congr (D' := D) (fun j hj => by show co (if j < k then D j else []) c = _; rw [if_pos hj])] at h
  rw [h]
  show co (if x < k then D x else []) c = _
  rw [if_pos hx]
end Go.Proofs.Ytjcbcdjfhcnhcaa
namespace Go.Proofs.Ytjcbcdjfhcnhcaa
open Go.RowKit

theorem ShardsIn.drewN {w : World} {a : Option Addr} {n cap : Nat} {I : Nat → Int} {A : Nat → Option Addr} {L C : Nat → Nat} {X : Nat → List Int} (h : ShardsIn w a n cap I A L C X) (k : Nat) : ShardsIn (w.drewN k) a n cap I A L C X := h.below (below_drewN (Below.refl _ _) k) (Nat.le_refl _)
/-- What the document's Check says. -/
inductive CheckTo (I : Nat → Int) (L : Nat → Nat) (k N n : Nat) (w : World) (e : Ending) (w' : World) : Prop
  | index (h : ¬ GoodIx I N n) (he : e = .returned (.int .i64 62)) (hb : Below w.heap.size w w') : CheckTo I L k N n w e w'
  | few (h : GoodIx I N n) (hn : n < k) (he : e = .returned (.int .i64 63)) (hb : Below w.heap.size w w') : CheckTo I L k N n w e w'
  | length (h : GoodIx I N n) (hn : k ≤ n) (hl : ¬ EvenL n L) (he : e = .returned (.int .i64 61)) (hb : Below w.heap.size w w') : CheckTo I L k N n w e w'
  | good (h : GoodIx I N n) (hn : k ≤ n) (hl : EvenL n L) (he : e = .returned (.int .i64 0)) (hb : Below w.heap.size w w') : CheckTo I L k N n w e w'
end Go.Proofs.Ytjcbcdjfhcnhcaa
namespace Go.Proofs.Ytjcbcdjfhcnhcaa
open Go.RowKit

/-- Those k with the least numbers. -/
def Leasts (I : Nat → Int) (A : Nat → Option Addr) (L C : Nat → Nat) (X : Nat → List Int) (k N n : Nat) (w : World) (e : Ending) (w' : World) : Prop :=
  ∃ A1 C1 A2 C2, e = .returned (.tuple #[.slice A1 k C1, .slice A2 k C2]) ∧ Ints w' A1 k (fun q => (nth I n N q : Nat)) ∧ ColsIn w' A2 k C2 (fun q => A (std I n N q)) (fun q => L (std I n N q)) (fun q => C (std I n N q)) (fun q => X (std I n N q)) ∧ Below w.heap.size w w'
end Go.Proofs.Ytjcbcdjfhcnhcaa
namespace Go.Proofs.Ytjcbcdjfhcnhcaa
open Go.RowKit

theorem even_perm {I : Nat → Int} {N n : Nat} {L : Nat → Nat} (hg : GoodIx I N n) : EvenL n (fun q => L (std I n N q)) ↔ EvenL n L := by
  have hlen := ordL_len n hg
  constructor
  · intro h j hj
    obtain ⟨q, hq, _, e⟩ := nth_of hg hj
    obtain ⟨q0, hq0, _, e0⟩ := nth_of hg (show 0 < n by omega)
    have h1 := h q (by omega)
    have h2 := h q0 (by omega)
    dsimp only at h1 h2
    rw [e] at h1
    rw [e0] at h2
    exact ⟨h1.1.trans h2.1.symm, h1.2⟩
  · intro h q hq
    have h1 := h _ (std_spec (I := I) (n := n) (V := N) (q := q) (by omega)).1
    have h2 := h _ (std_spec (I := I) (n := n) (V := N) (q := 0) (by omega)).1
    exact ⟨h1.1.trans h2.1.symm, h1.2⟩
/-- All in order? -/
def OkList (I : Nat → Int) (L : Nat → Nat) (k N n : Nat) : Prop := GoodIx I N n ∧ k ≤ n ∧ EvenL n L
/-- Where it is. -/
theorem good_decode {b t k m n cap : Nat} {a : Option Addr} {I : Nat → Int} {A : Nat → Option Addr} {L C : Nat → Nat} {X : Nat → List Int} {w : World} (ok : OkList I L k (k + m) n) (h : IsCode w b t k m) (hs : ShardsIn w a n cap I A L C X) :
    Calls Try.prog 79 #[.pointer (some ⟨b, 0, none⟩), .slice a n cap] w (AppliedTo k (L (std I n (k + m) 0)) (decE I X k (k + m) n) w) :=
  (code_decode b t k m n cap a I A L C X w h hs).mono fun e w' ho => by
    cases ho with
    | index h _ => exact absurd ok.1 h
    | few _ h _ => have := ok.2.1; omega
    | length _ _ h _ => exact absurd ((even_perm ok.1).2 ok.2.2) h
    | good _ _ _ he => exact he
end Go.Proofs.Ytjcbcdjfhcnhcaa
namespace Go.Proofs.Ytjcbcdjfhcnhcaa
open Go.RowKit

theorem info_shard : (Try.prog.info? 111).map (fun i => (i.zero, i.size, i.bytes)) = some (some (.agg #[.int .i64 0, .slice none 0 0]), 2, 32) := by kernel_rfl
/-- Shards in a row of the call's own. -/
def OwnH (w : World) (base : Nat) (v : Value) (n : Nat) (l : List Value) : Prop := w.ownsRow base 111 2 v n l
theorem OwnH.none (w : World) (base : Nat) : OwnH w base (.slice none 0 0) 0 [] := ⟨rfl, .inl ⟨rfl, rfl⟩⟩
/-- Their cells. -/
def shV (I : Nat → Int) (A : Nat → Option Addr) (L C : Nat → Nat) : Nat → List Value
  | 0 => []
  | q + 1 => shV I A L C q ++ [.int .i64 (I q), .slice (A q) (L q) (C q)]
theorem shV_len (I : Nat → Int) (A : Nat → Option Addr) (L C : Nat → Nat) : ∀ q, (shV I A L C q).length = q * 2
  | 0 => rfl
  | q + 1 => by show (shV I A L C q ++ _).length = _; rw [List.length_append, shV_len I A L C q]; show q * 2 + 2 = (q + 1) * 2; omega
theorem shV_get (I : Nat → Int) (A : Nat → Option Addr) (L C : Nat → Nat) : ∀ q i, i < q → (shV I A L C q)[i * 2]? = some (.int .i64 (I i)) ∧ (shV I A L C q)[i * 2 + 1]? = some (.slice (A i) (L i) (C i))
  | 0, i, h => absurd h (by omega)
  | q + 1, i, h => by
    have hl := shV_len I A L C q
    show (shV I A L C q ++ [.int .i64 (I q), .slice (A q) (L q) (C q)])[i * 2]? = _ ∧ (shV I A L C q ++ [.int .i64 (I q), .slice (A q) (L q) (C q)])[i * 2 + 1]? = _
    by_cases e : i = q
    · rw [List.getElem?_append_right (by omega), List.getElem?_append_right (by omega), hl, e, show q * 2 - q * 2 = 0 by omega, show q * 2 + 1 - q * 2 = 1 by omega]
      exact ⟨rfl, rfl⟩
    · rw [List.getElem?_append_left (by omega), List.getElem?_append_left (by omega)]
      exact shV_get I A L C q i (by omega)
theorem shV_congr {I I' : Nat → Int} {A A' : Nat → Option Addr} {L L' C C' : Nat → Nat} : ∀ q, (∀ i, i < q → I i = I' i ∧ A i = A' i ∧ L i = L' i ∧ C i = C' i) → shV I A L C q = shV I' A' L' C' q
  | 0, _ => rfl
  | q + 1, h => by
    obtain ⟨h1, h2, h3, h4⟩ := h q (by omega)
    show shV I A L C q ++ _ = shV I' A' L' C' q ++ _
    rw [shV_congr q (fun i hi => h i (by omega)), h1, h2, h3, h4]
theorem new_shard (W : World) (z : Int) (A : Option Addr) (L C : Nat) : (W.alloc (.cells #[.int .i64 z, .slice A L C] 111)).heap[W.heap.size]? = some (.cells #[.int .i64 z, .slice A L C] 111 (0, 0)) := Go.Deep.blk_alloc_new _ _
theorem OwnH.slice {w : World} {base : Nat} {v : Value} {n : Nat} {l : List Value} (h : OwnH w base v n l) : ∃ A C, v = .slice A n C ∧ n ≤ C ∧ C ≤ maxLen ∧ (A = Option.none → C = 0) := by
  rcases h.2 with ⟨rfl, rfl⟩ | ⟨g, cap, cur, rfl, h1, h2, h3, h4, _⟩
  · exact ⟨Option.none, 0, rfl, by omega, by omega, fun _ => rfl⟩
  · exact ⟨_, _, rfl, h3, h4, fun h => nomatch h⟩
/-- Such a row read. -/
theorem OwnH.shards {w : World} {base n C0 : Nat} {A0 : Option Addr} (I : Nat → Int) (A : Nat → Option Addr) (L C : Nat → Nat) (X : Nat → List Int) (h : OwnH w base (.slice A0 n C0) n (shV I A L C n)) (hI : ∀ i, i < n → -9223372036854775808 ≤ I i ∧ I i ≤ 9223372036854775807) (hs : ∀ i, i < n → Sl w (A i) (L i) (C i) (X i)) : ShardsIn w A0 n C0 I A L C X := by
  obtain ⟨A', C', e, h1, h2, h3⟩ := h.slice
  cases e
  refine ⟨h1, by unfold maxLen at h2; omega, h3, hI, fun r hr => ?_, hs⟩
  rcases h.2 with ⟨e, h0⟩ | ⟨g, cap, cur, e, _, hg, _, _, hsz, hcur⟩
  · omega
  · cases e
    obtain ⟨g1, g2⟩ := shV_get I A L C n r hr
    rw [← hcur] at g1 g2
    rw [List.getElem?_take, if_pos (by omega)] at g1 g2
    refine ⟨g, 0, rfl, (Array.getElem?_eq_some_iff.1 hg).1, ?_, ?_⟩
    · rw [Nat.zero_add]; simp only [World.cell?, hg]; simpa using g1
    · rw [Nat.zero_add]; simp only [World.cell?, hg]; simpa using g2
/-- What shards of it tell of another place. -/
theorem dec_word {I : Nat → Int} {X D : Nat → List Int} {k N n z len : Nat} (hN : N ≤ 255) (hg : GoodIx I N n) (hk : k ≤ n) (hX : ∀ i, i < n → ∀ c, c < len → co (X i) c = wordE D k (I i).toNat c) (hz : z < 256) {c : Nat} (hc : c < len) : decE I X k N n z c = wordE D k z c := by
  have hlen := ordL_len n hg
  have hle := ord_le I n N
  unfold decE wordE
  rw [← weights_tell (P := nth I n N) (k := k) (by omega) (fun i hi => by have : nth I n N i < N := nth_lt (by omega); omega) (fun i j h1 h2 => Nat.ne_of_lt (nth_mono h1 (by omega))) (fun j => co (D j) c) hz]
  refine xs_congr k (fun j hj => ?_)
  obtain ⟨h1, h2, _⟩ := std_spec (I := I) (n := n) (V := N) (q := j) (by omega)
  have h3 := hX _ h1 c hc
  rw [h2, Int.toNat_natCast] at h3
  show mu (lagw (nth I n N) k j z) (co (X (std I n N j)) c) = mu (lagw (nth I n N) k j z) _
  rw [h3]
  rfl
end Go.Proofs.Ytjcbcdjfhcnhcaa
